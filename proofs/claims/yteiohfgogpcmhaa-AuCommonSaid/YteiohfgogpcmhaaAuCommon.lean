/-
  What au.MulDiv answers is the same where the factors change places, where both numbers change their sign, and where a factor stands on both sides; the parts of a whole and of what is left come to the whole or to one less: for every input, no conditions.
-/
import Derived.Test.YteiohfgogpcmhaaWorks
import Derived.ProofKit
import Derived.OpenShut
import Derived.BigGuard
namespace Go.Proofs.Yteiohfgogpcmhaa.lawAuCommon
open Go.ChangeShapes Go.WideShapes Go.ChangeAt Go.RowKit Go.Proofs.Yteiohfgogpcmhaa
set_option linter.unusedVariables false

theorem own : ownKnob Try.prog.godebug = none := by kernel_rfl

theorem mv_comm (a b c : Int) : mv b a c = mv a b c ∧ mf b a c = mf a b c := by
  have h : qI b a c = qI a b c := by unfold qI; rw [Int.mul_comm]
  unfold mv mf; rw [h]; exact ⟨rfl, rfl⟩

theorem mv_neg (a b c : Int) : mv (-a) b (-c) = mv a b c ∧ mf (-a) b (-c) = mf a b c := by
  unfold mv mf
  by_cases h0 : c = 0
  · subst h0; simp
  · have h : qI (-a) b (-c) = qI a b c := by
      unfold qI
      by_cases h : 0 < c
      · rw [if_neg (by omega), if_pos h, Int.neg_mul, Int.neg_neg, Int.neg_neg]
      · rw [if_pos (by omega), if_neg h, Int.neg_mul]
    rw [h, if_neg (by omega), if_neg h0, if_neg (by omega), if_neg h0]; exact ⟨rfl, rfl⟩

theorem mv_mul (a b c k : Int) (hk : k ≠ 0) : mv (a * k) b (c * k) = mv a b c ∧ mf (a * k) b (c * k) = mf a b c := by
  unfold mv mf
  by_cases h0 : c = 0
  · subst h0; simp
  · have hck : c * k ≠ 0 := Int.mul_ne_zero h0 hk
    have h : qI (a * k) b (c * k) = qI a b c := by
      unfold qI
      have e : a * k * b = a * b * k := Int.mul_right_comm a k b
      rw [e]
      rcases Int.lt_or_gt_of_ne hk with h1 | h1
      · have e2 : -(c * k) = c * -k := by rw [Int.mul_neg]
        have e3 : -(a * b * k) = a * b * -k := by rw [Int.mul_neg]
        by_cases h : 0 < c
        · have : c * k < 0 := Int.mul_neg_of_pos_of_neg h h1
          rw [if_neg (by omega), if_pos h, e2, e3, Int.mul_ediv_mul_of_pos_left _ _ (by omega)]
        · have : 0 < c * k := Int.mul_pos_of_neg_of_neg (by omega) h1
          rw [if_pos this, if_neg h]
          have e4 : a * b * k = -(a * b) * -k := by rw [Int.neg_mul_neg]
          have e5 : c * k = -c * -k := by rw [Int.neg_mul_neg]
          rw [e4, e5, Int.mul_ediv_mul_of_pos_left _ _ (by omega)]
      · by_cases h : 0 < c
        · rw [if_pos (Int.mul_pos h h1), if_pos h, Int.mul_ediv_mul_of_pos_left _ _ h1]
        · have : c * k < 0 := Int.mul_neg_of_neg_of_pos (by omega) h1
          rw [if_neg (by omega), if_neg h]
          have e4 : -(a * b * k) = -(a * b) * k := by rw [Int.neg_mul]
          have e5 : -(c * k) = -c * k := by rw [Int.neg_mul]
          rw [e4, e5, Int.mul_ediv_mul_of_pos_left _ _ h1]
    rw [h, if_neg hck, if_neg h0, if_neg hck, if_neg h0]; exact ⟨rfl, rfl⟩

theorem prod_bound (A B : Int) (a b : Nat) (hx : A.natAbs ≤ a) (hy : B.natAbs ≤ b) : -((a * b : Nat) : Int) ≤ A * B ∧ A * B ≤ ((a * b : Nat) : Int) := by
  have h1 : A.natAbs * B.natAbs ≤ a * b := Nat.mul_le_mul hx hy
  rw [← Int.natAbs_mul] at h1
  omega

/-- Two parts of a whole. -/
theorem parts (a n : Int) (ha : -2147483648 ≤ a) (ha' : a ≤ 2147483647) (hn : -10000 ≤ n) (hn' : n ≤ 10000) :
    cutI (qI a n 10000) = qI a n 10000 ∧ farI (qI a n 10000) = false ∧ cutI (qI a (10000 - n) 10000) = qI a (10000 - n) 10000 ∧ farI (qI a (10000 - n) 10000) = false ∧
    (qI a n 10000 + qI a (10000 - n) 10000 = a ∨ qI a n 10000 + qI a (10000 - n) 10000 = a - 1) ∧
    -1000000000000 ≤ qI a n 10000 ∧ qI a n 10000 ≤ 1000000000000 ∧ -1000000000000 ≤ qI a (10000 - n) 10000 ∧ qI a (10000 - n) 10000 ≤ 1000000000000 := by
  have h1 : qI a n 10000 = a * n / 10000 := by unfold qI; rw [if_pos (by omega)]
  have h2 : qI a (10000 - n) 10000 = (a * 10000 - a * n) / 10000 := by unfold qI; rw [if_pos (by omega), Int.mul_sub]
  have hb := prod_bound a n 2147483648 10000 (by omega) (by omega)
  rw [h1, h2]
  generalize a * n = z at *
  unfold cutI farI
  refine ⟨?_, ?_, ?_, ?_, ?_, ?_, ?_, ?_, ?_⟩
  · rw [if_neg (by omega), if_neg (by omega)]
  · simp; omega
  · rw [if_neg (by omega), if_neg (by omega)]
  · simp; omega
  all_goals omega

section
variable (a b c k X p q n : Int) (E : Bool) (w : World) (ha : -2147483648 ≤ a) (ha' : a ≤ 2147483647) (hb : -2147483648 ≤ b) (hb' : b ≤ 2147483647) (hc : -2147483648 ≤ c) (hc' : c ≤ 2147483647) (hk : -2147483648 ≤ k) (hk' : k ≤ 2147483647)
  (e1 : Hid (mv a b c = X)) (f1 : Hid (mf a b c = E)) (e2 : Hid (mv b a c = X)) (f2 : Hid (mf b a c = E)) (e3 : Hid (mv (-a) b (-c) = X)) (f3 : Hid (mf (-a) b (-c) = E))
  (r : b.tmod 10001 = n) (hn : -10000 ≤ n) (hn' : n ≤ 10000)
  (e5 : Hid (cutI (qI a n 10000) = p)) (f5 : Hid (farI (qI a n 10000) = false)) (e6 : Hid (cutI (qI a (10000 - n) 10000) = q)) (f6 : Hid (farI (qI a (10000 - n) 10000) = false))
  (hp : -1000000000000 ≤ p) (hp' : p ≤ 1000000000000) (hq : -1000000000000 ≤ q) (hq' : q ≤ 1000000000000)

include ha ha' hb hb' hc hc' e1 f1 e2 f2 e3 f3 r hn hn' e5 f5 e6 f6 hp hp' hq hq'

set_option maxRecDepth 200000 in
set_option maxHeartbeats 1600000 in
theorem zero_same (s1 : (p + q == a) = true) :
    Calls Try.prog 9 #[.int .i32 a, .int .i32 b, .int .i32 c, .int .i32 0] w fun e w' => e = .returned (.bool true) ∧ Qt w.heap.size w w' := by
  go_enter Try.func9, Try.ntmps9
  go_wp2_with fail
  refine (muldiv_all a b c (by omega) (by omega) (by omega) (by omega) (by omega) (by omega) _).mono ?_; rintro e w' ⟨rfl, m, rfl⟩; rw [e1.out, f1.out]
  go_wp2_with fail
  refine (muldiv_all b a c (by omega) (by omega) (by omega) (by omega) (by omega) (by omega) _).mono ?_; rintro e w' ⟨rfl, m2, rfl⟩; rw [e2.out, f2.out]
  go_wp2_with fail
  refine (muldiv_all (-a) b (-c) (by omega) (by omega) (by omega) (by omega) (by omega) (by omega) _).mono ?_; rintro e w' ⟨rfl, m3, rfl⟩; rw [e3.out, f3.out]
  go_wp2_with fail
  refine (part_any a n (by omega) (by omega) (by omega) (by omega) _).mono ?_; rintro e w' ⟨rfl, m4, rfl⟩; rw [e5.out, f5.out]
  go_wp2_with fail
  refine (part_any a (10000 - n) (by omega) (by omega) (by omega) (by omega) _).mono ?_; rintro e w' ⟨rfl, m5, rfl⟩; rw [e6.out, f6.out]
  go_wp2_with fail
  refine (works_any _).mono ?_; rintro e w' ⟨rfl, hz⟩
  go_wp2_with fail
  go_ret
  exact ⟨rfl, ((Qt.refl _ w).drewN _).trans hz⟩

set_option maxRecDepth 200000 in
set_option maxHeartbeats 1600000 in
theorem zero_less (s1 : (p + q == a) = false) (s2 : (p + q == a - 1) = true) :
    Calls Try.prog 9 #[.int .i32 a, .int .i32 b, .int .i32 c, .int .i32 0] w fun e w' => e = .returned (.bool true) ∧ Qt w.heap.size w w' := by
  go_enter Try.func9, Try.ntmps9
  go_wp2_with fail
  refine (muldiv_all a b c (by omega) (by omega) (by omega) (by omega) (by omega) (by omega) _).mono ?_; rintro e w' ⟨rfl, m, rfl⟩; rw [e1.out, f1.out]
  go_wp2_with fail
  refine (muldiv_all b a c (by omega) (by omega) (by omega) (by omega) (by omega) (by omega) _).mono ?_; rintro e w' ⟨rfl, m2, rfl⟩; rw [e2.out, f2.out]
  go_wp2_with fail
  refine (muldiv_all (-a) b (-c) (by omega) (by omega) (by omega) (by omega) (by omega) (by omega) _).mono ?_; rintro e w' ⟨rfl, m3, rfl⟩; rw [e3.out, f3.out]
  go_wp2_with fail
  refine (part_any a n (by omega) (by omega) (by omega) (by omega) _).mono ?_; rintro e w' ⟨rfl, m4, rfl⟩; rw [e5.out, f5.out]
  go_wp2_with fail
  refine (part_any a (10000 - n) (by omega) (by omega) (by omega) (by omega) _).mono ?_; rintro e w' ⟨rfl, m5, rfl⟩; rw [e6.out, f6.out]
  go_wp2_with fail
  refine (works_any _).mono ?_; rintro e w' ⟨rfl, hz⟩
  go_wp2_with fail
  go_ret
  exact ⟨rfl, ((Qt.refl _ w).drewN _).trans hz⟩

variable (ak ck : Int) (r7 : a * k = ak) (r8 : c * k = ck) (e4 : Hid (mv ak b ck = X)) (f4 : Hid (mf ak b ck = E)) (hk0 : (k != 0) = true)
  (hak : -4611686018427387904 ≤ ak) (hak' : ak ≤ 4611686018427387904) (hck : -4611686018427387904 ≤ ck) (hck' : ck ≤ 4611686018427387904)
include hk hk' r7 r8 e4 f4 hk0 hak hak' hck hck'

set_option maxRecDepth 200000 in
set_option maxHeartbeats 1600000 in
theorem fact_same (s1 : (p + q == a) = true) :
    Calls Try.prog 9 #[.int .i32 a, .int .i32 b, .int .i32 c, .int .i32 k] w fun e w' => e = .returned (.bool true) ∧ Qt w.heap.size w w' := by
  go_enter Try.func9, Try.ntmps9
  go_wp2_with fail
  refine (muldiv_all a b c (by omega) (by omega) (by omega) (by omega) (by omega) (by omega) _).mono ?_; rintro e w' ⟨rfl, m, rfl⟩; rw [e1.out, f1.out]
  go_wp2_with fail
  refine (muldiv_all b a c (by omega) (by omega) (by omega) (by omega) (by omega) (by omega) _).mono ?_; rintro e w' ⟨rfl, m2, rfl⟩; rw [e2.out, f2.out]
  go_wp2_with fail
  refine (muldiv_all (-a) b (-c) (by omega) (by omega) (by omega) (by omega) (by omega) (by omega) _).mono ?_; rintro e w' ⟨rfl, m3, rfl⟩; rw [e3.out, f3.out]
  go_wp2_with fail
  refine (muldiv_all ak b ck (by omega) (by omega) (by omega) (by omega) (by omega) (by omega) _).mono ?_; rintro e w' ⟨rfl, m6, rfl⟩; rw [e4.out, f4.out]
  go_wp2_with fail
  refine (part_any a n (by omega) (by omega) (by omega) (by omega) _).mono ?_; rintro e w' ⟨rfl, m4, rfl⟩; rw [e5.out, f5.out]
  go_wp2_with fail
  refine (part_any a (10000 - n) (by omega) (by omega) (by omega) (by omega) _).mono ?_; rintro e w' ⟨rfl, m5, rfl⟩; rw [e6.out, f6.out]
  go_wp2_with fail
  refine (works_any _).mono ?_; rintro e w' ⟨rfl, hz⟩
  go_wp2_with fail
  go_ret
  exact ⟨rfl, ((Qt.refl _ w).drewN _).trans hz⟩

set_option maxRecDepth 200000 in
set_option maxHeartbeats 1600000 in
theorem fact_less (s1 : (p + q == a) = false) (s2 : (p + q == a - 1) = true) :
    Calls Try.prog 9 #[.int .i32 a, .int .i32 b, .int .i32 c, .int .i32 k] w fun e w' => e = .returned (.bool true) ∧ Qt w.heap.size w w' := by
  go_enter Try.func9, Try.ntmps9
  go_wp2_with fail
  refine (muldiv_all a b c (by omega) (by omega) (by omega) (by omega) (by omega) (by omega) _).mono ?_; rintro e w' ⟨rfl, m, rfl⟩; rw [e1.out, f1.out]
  go_wp2_with fail
  refine (muldiv_all b a c (by omega) (by omega) (by omega) (by omega) (by omega) (by omega) _).mono ?_; rintro e w' ⟨rfl, m2, rfl⟩; rw [e2.out, f2.out]
  go_wp2_with fail
  refine (muldiv_all (-a) b (-c) (by omega) (by omega) (by omega) (by omega) (by omega) (by omega) _).mono ?_; rintro e w' ⟨rfl, m3, rfl⟩; rw [e3.out, f3.out]
  go_wp2_with fail
  refine (muldiv_all ak b ck (by omega) (by omega) (by omega) (by omega) (by omega) (by omega) _).mono ?_; rintro e w' ⟨rfl, m6, rfl⟩; rw [e4.out, f4.out]
  go_wp2_with fail
  refine (part_any a n (by omega) (by omega) (by omega) (by omega) _).mono ?_; rintro e w' ⟨rfl, m4, rfl⟩; rw [e5.out, f5.out]
  go_wp2_with fail
  refine (part_any a (10000 - n) (by omega) (by omega) (by omega) (by omega) _).mono ?_; rintro e w' ⟨rfl, m5, rfl⟩; rw [e6.out, f6.out]
  go_wp2_with fail
  refine (works_any _).mono ?_; rintro e w' ⟨rfl, hz⟩
  go_wp2_with fail
  go_ret
  exact ⟨rfl, ((Qt.refl _ w).drewN _).trans hz⟩

end

theorem walk (a b c k : Int) (w0 : (Lit.int .i32 a).wf = true) (w1 : (Lit.int .i32 b).wf = true) (w2 : (Lit.int .i32 c).wf = true) (w3 : (Lit.int .i32 k).wf = true) (w : World) :
    Calls Try.prog 9 #[.int .i32 a, .int .i32 b, .int .i32 c, .int .i32 k] w fun e w' => e = .returned (.bool true) ∧ Qt w.heap.size w w' := by
  have ha := bounds_i32 w0
  have hb := bounds_i32 w1
  have hc := bounds_i32 w2
  have hk := bounds_i32 w3
  have hn := Int.tmod_lt_of_pos b (show (0 : Int) < 10001 by omega)
  have hn' := Int.lt_tmod_of_pos b (show (0 : Int) < 10001 by omega)
  obtain ⟨n, r⟩ : ∃ n, b.tmod 10001 = n := ⟨_, rfl⟩
  rw [r] at hn hn'
  obtain ⟨p1, p2, p3, p4, p5, p6, p7, p8, p9⟩ := parts a n ha.1 ha.2 (by omega) (by omega)
  have mc := mv_comm a b c
  have mn := mv_neg a b c
  by_cases hk0 : k = 0
  · subst hk0
    by_cases hs : qI a n 10000 + qI a (10000 - n) 10000 = a
    · exact zero_same a b c _ _ _ n _ w ha.1 ha.2 hb.1 hb.2 hc.1 hc.2 (Lib.hid rfl) (Lib.hid rfl) (Lib.hid mc.1) (Lib.hid mc.2) (Lib.hid mn.1) (Lib.hid mn.2) r (by omega) (by omega) (Lib.hid p1) (Lib.hid p2) (Lib.hid p3) (Lib.hid p4) p6 p7 p8 p9 (by simpa using hs)
    · exact zero_less a b c _ _ _ n _ w ha.1 ha.2 hb.1 hb.2 hc.1 hc.2 (Lib.hid rfl) (Lib.hid rfl) (Lib.hid mc.1) (Lib.hid mc.2) (Lib.hid mn.1) (Lib.hid mn.2) r (by omega) (by omega) (Lib.hid p1) (Lib.hid p2) (Lib.hid p3) (Lib.hid p4) p6 p7 p8 p9 (by simpa using hs) (by simp; omega)
  · have mm := mv_mul a b c k hk0
    have b1 := prod_bound a k 2147483648 2147483648 (by omega) (by omega)
    have b2 := prod_bound c k 2147483648 2147483648 (by omega) (by omega)
    by_cases hs : qI a n 10000 + qI a (10000 - n) 10000 = a
    · exact fact_same a b c k _ _ _ n _ w ha.1 ha.2 hb.1 hb.2 hc.1 hc.2 hk.1 hk.2 (Lib.hid rfl) (Lib.hid rfl) (Lib.hid mc.1) (Lib.hid mc.2) (Lib.hid mn.1) (Lib.hid mn.2) r (by omega) (by omega) (Lib.hid p1) (Lib.hid p2) (Lib.hid p3) (Lib.hid p4) p6 p7 p8 p9
        _ _ rfl rfl (Lib.hid mm.1) (Lib.hid mm.2) (by simpa using hk0) (by omega) (by omega) (by omega) (by omega) (by simpa using hs)
    · exact fact_less a b c k _ _ _ n _ w ha.1 ha.2 hb.1 hb.2 hc.1 hc.2 hk.1 hk.2 (Lib.hid rfl) (Lib.hid rfl) (Lib.hid mc.1) (Lib.hid mc.2) (Lib.hid mn.1) (Lib.hid mn.2) r (by omega) (by omega) (Lib.hid p1) (Lib.hid p2) (Lib.hid p3) (Lib.hid p4) p6 p7 p8 p9
        _ _ rfl rfl (Lib.hid mm.1) (Lib.hid mm.2) (by simpa using hk0) (by omega) (by omega) (by omega) (by omega) (by simpa using hs) (by simp; omega)

set_option maxRecDepth 100000 in
theorem lifted (os : Os) (started : os.Started) (H : Type) (enc : TypeId × Value → H) :
    ReturnsInHanded {} Try.checked os 9 .any (Rows.auCommonSpec.pre6 enc Try.prog Try.f9 Rows.auCommonRow.domain false) (Rows.auCommonSpec.post enc Try.prog Try.f9 false true false false) := by
  refine returnsInHanded_of_change (C := Try.checked) own started (by kernel_rfl) Try.func9
    (ChangeSpec.witness6 (enc := enc) (C := Try.checked) false ⟨#[], #[.int .i32 0, .int .i32 0, .int .i32 0, .int .i32 0], []⟩ 9 (by kernel_rfl) (by kernel_rfl) (by kernel_rfl) (by kernel_rfl)) ?_
  intro W base args ds gs before hval0 hW hcnd _
  have hval : ∀ (j : Nat) t v, Try.f9.params[j]? = some t → args[j]? = some v → Value.okWide Try.prog W .any base t v := hval0
  have hW' := hW
  obtain ⟨p, q, hA0, hV, rfl, hfz, hnd⟩ := hW
  have hA : DataW.TrodAll enc Try.prog W 0 (fun _ => true) true Try.f9.params.toList args.toList ds p := hA0
  rw [Try.params9] at hA hval
  obtain ⟨v0, vs0, d0, ds0, p0, q0, hargs, rfl, rfl, h0, r0⟩ := trodAll_cons hA
  obtain ⟨v1, vs1, d1, ds1, p1, q1, rfl, rfl, rfl, h1, r1⟩ := trodAll_cons r0
  obtain ⟨v2, vs2, d2, ds2, p2, q2, rfl, rfl, rfl, h2, r2⟩ := trodAll_cons r1
  obtain ⟨v3, vs3, d3, ds3, p3, q3, rfl, rfl, rfl, h3, r3⟩ := trodAll_cons r2
  obtain ⟨rfl, rfl, rfl⟩ := trodAll_nil r3
  obtain rfl : args = #[v0, v1, v2, v3] := by cases args; simp_all
  obtain ⟨rfl, rfl⟩ := trodVars_none hV
  obtain ⟨a0, rfl, rfl, rfl, w0⟩ := open_int Try.underlying21 (hval 0 21 v0 rfl rfl) h0
  obtain ⟨a1, rfl, rfl, rfl, w1⟩ := open_int Try.underlying21 (hval 1 21 v1 rfl rfl) h1
  obtain ⟨a2, rfl, rfl, rfl, w2⟩ := open_int Try.underlying21 (hval 2 21 v2 rfl rfl) h2
  obtain ⟨a3, rfl, rfl, rfl, w3⟩ := open_int Try.underlying21 (hval 3 21 v3 rfl rfl) h3
  clear hA0 hval0
  simp only [List.append_nil] at hW'
  refine (walk a0 a1 a2 a3 w0 w1 w2 w3 W).mono fun e W' ⟨he, hg⟩ => ?_
  subst he
  exact ⟨_, rfl, post_of_same (pa := []) (pv := []) hW' (fun _ _ _ => (trodAll_cons_mk (shut_bool Try.underlying4 _) trodAll_mk0)) (fun sp _ => (trodAll_cons_mk (shut_int Try.underlying21 w0) (trodAll_cons_mk (shut_int Try.underlying21 w1) (trodAll_cons_mk (shut_int Try.underlying21 w2) (trodAll_cons_mk (shut_int Try.underlying21 w3) trodAll_mk0))))) (fun _ _ => rfl) rfl
    (hg.grown.frame _) hg.2 (ok_one (by kernel_rfl) rfl (okWide_bool_mk Try.underlying4 _))⟩

theorem over : Rows.auCommonRow.holds Try.pinned (OpenSpec.ofChange Rows.auCommonSpec) :=
  OpenClaim.holds_of_wide 9 Try.f9 rfl rfl rfl rfl rfl rfl rfl ⟨rfl, rfl, rfl, rfl, rfl⟩ rfl rfl rfl rfl rfl (by kernel_rfl) Try.func9 (by kernel_rfl)
    (of_decide_eq_true (by kernel_rfl)) (by unfold Func.isWrapper; first | (rw [if_pos (by decide +kernel)]; kernel_rfl) | (rw [if_neg (by decide +kernel)]; exact ⟨rfl, rfl⟩))
    (fun os started H enc _ => lifted os started H enc)

/-- The statement. -/
theorem proved : Rows.AuCommonSaid := over
#print axioms proved
end Go.Proofs.Yteiohfgogpcmhaa.lawAuCommon
