/-
  What au.Within answers is within the two numbers, and one of the three, and stays there: for every input, no conditions.
-/
import Derived.Test.YteiohfgogpcmhaaWorks
import Derived.ProofKit
import Derived.OpenShut
import Derived.BigGuard
namespace Go.Proofs.Yteiohfgogpcmhaa.lawAuWithin
open Go.ChangeShapes Go.WideShapes Go.ChangeAt Go.RowKit Go.Proofs.Yteiohfgogpcmhaa
set_option linter.unusedVariables false

theorem own : ownKnob Try.prog.godebug = none := by kernel_rfl

set_option maxRecDepth 100000 in
theorem same_ (x l m y : Int) (w : World) (h : ¬ m < l) (ha : l ≤ y) (hb : y ≤ m) (hy : Hid (withinI x l m = y)) (hd : Hid (withinI y l m = y)) (t1 : (y == x) = true) (hyy : (y == y) = true) :
    Calls Try.prog 8 #[.int .i64 x, .int .i64 l, .int .i64 m] w fun e w' => e = .returned (.bool true) ∧ Qt w.heap.size w w' := by
  go_enter Try.func8, Try.ntmps8
  go_wp2_with fail
  refine (within_any x l m _).mono ?_; rintro e w' ⟨rfl, rfl⟩; rw [hy.out]
  go_wp2_with fail
  refine (within_any y l m _).mono ?_; rintro e w' ⟨rfl, rfl⟩; rw [hd.out]
  go_wp2_with fail
  refine (works_any _).mono ?_; rintro e w' ⟨rfl, hq⟩
  go_wp2_with fail
  go_ret
  exact ⟨rfl, hq⟩

set_option maxRecDepth 100000 in
theorem low_ (x l m y : Int) (w : World) (h : ¬ m < l) (ha : l ≤ y) (hb : y ≤ m) (hy : Hid (withinI x l m = y)) (hd : Hid (withinI y l m = y)) (t1 : (y == x) = false) (t2 : (y == l) = true) (t3 : x < l) (hyy : (y == y) = true) :
    Calls Try.prog 8 #[.int .i64 x, .int .i64 l, .int .i64 m] w fun e w' => e = .returned (.bool true) ∧ Qt w.heap.size w w' := by
  go_enter Try.func8, Try.ntmps8
  go_wp2_with fail
  refine (within_any x l m _).mono ?_; rintro e w' ⟨rfl, rfl⟩; rw [hy.out]
  go_wp2_with fail
  refine (within_any y l m _).mono ?_; rintro e w' ⟨rfl, rfl⟩; rw [hd.out]
  go_wp2_with fail
  refine (works_any _).mono ?_; rintro e w' ⟨rfl, hq⟩
  go_wp2_with fail
  go_ret
  exact ⟨rfl, hq⟩

set_option maxRecDepth 100000 in
theorem both_ (x l m y : Int) (w : World) (h : ¬ m < l) (ha : l ≤ y) (hb : y ≤ m) (hy : Hid (withinI x l m = y)) (hd : Hid (withinI y l m = y)) (t1 : (y == x) = false) (t2 : (y == l) = true) (t3 : ¬ x < l) (t4 : (y == m) = true) (t5 : m < x) (hyy : (y == y) = true) :
    Calls Try.prog 8 #[.int .i64 x, .int .i64 l, .int .i64 m] w fun e w' => e = .returned (.bool true) ∧ Qt w.heap.size w w' := by
  go_enter Try.func8, Try.ntmps8
  go_wp2_with fail
  refine (within_any x l m _).mono ?_; rintro e w' ⟨rfl, rfl⟩; rw [hy.out]
  go_wp2_with fail
  refine (within_any y l m _).mono ?_; rintro e w' ⟨rfl, rfl⟩; rw [hd.out]
  go_wp2_with fail
  refine (works_any _).mono ?_; rintro e w' ⟨rfl, hq⟩
  go_wp2_with fail
  go_ret
  exact ⟨rfl, hq⟩

set_option maxRecDepth 100000 in
theorem high_ (x l m y : Int) (w : World) (h : ¬ m < l) (ha : l ≤ y) (hb : y ≤ m) (hy : Hid (withinI x l m = y)) (hd : Hid (withinI y l m = y)) (t1 : (y == x) = false) (t2 : (y == l) = false) (t4 : (y == m) = true) (t5 : m < x) (hyy : (y == y) = true) :
    Calls Try.prog 8 #[.int .i64 x, .int .i64 l, .int .i64 m] w fun e w' => e = .returned (.bool true) ∧ Qt w.heap.size w w' := by
  go_enter Try.func8, Try.ntmps8
  go_wp2_with fail
  refine (within_any x l m _).mono ?_; rintro e w' ⟨rfl, rfl⟩; rw [hy.out]
  go_wp2_with fail
  refine (within_any y l m _).mono ?_; rintro e w' ⟨rfl, rfl⟩; rw [hd.out]
  go_wp2_with fail
  refine (works_any _).mono ?_; rintro e w' ⟨rfl, hq⟩
  go_wp2_with fail
  go_ret
  exact ⟨rfl, hq⟩

set_option maxRecDepth 100000 in
theorem walk (x l m : Int) (w0 : (Lit.int .i64 x).wf = true) (w1 : (Lit.int .i64 l).wf = true) (w2 : (Lit.int .i64 m).wf = true) (w : World) :
    Calls Try.prog 8 #[.int .i64 x, .int .i64 l, .int .i64 m] w fun e w' => e = .returned (.bool true) ∧ Qt w.heap.size w w' := by
  by_cases h : m < l
  · have e1 := Lib.hid (show withinI x l m = l by unfold withinI; omega)
    go_enter Try.func8, Try.ntmps8
    go_wp2_with fail
    refine (within_any x l m _).mono ?_; rintro e w' ⟨rfl, rfl⟩; rw [e1.out]
    go_wp2_with fail
    refine (works_any _).mono ?_; rintro e w' ⟨rfl, hq⟩
    go_wp2_with fail
    go_ret
    exact ⟨rfl, hq⟩
  · have ha : l ≤ withinI x l m := by unfold withinI; omega
    have hb : withinI x l m ≤ m := by unfold withinI; omega
    have hc : withinI x l m = x ∨ withinI x l m = l ∧ x < l ∨ withinI x l m = m ∧ m < x := by unfold withinI; omega
    have hd : withinI (withinI x l m) l m = withinI x l m := by unfold withinI; omega
    obtain ⟨y, hy⟩ : ∃ y, withinI x l m = y := ⟨_, rfl⟩
    rw [hy] at ha hb hc hd
    by_cases c1 : y = x
    · exact same_ x l m y w h ha hb (Lib.hid hy) (Lib.hid hd) (by simpa using c1) (by simp)
    · by_cases c2 : y = l
      · by_cases c3 : x < l
        · exact low_ x l m y w h ha hb (Lib.hid hy) (Lib.hid hd) (by simpa using c1) (by simpa using c2) c3 (by simp)
        · exact both_ x l m y w h ha hb (Lib.hid hy) (Lib.hid hd) (by simpa using c1) (by simpa using c2) c3 (by simp; omega) (by omega) (by simp)
      · exact high_ x l m y w h ha hb (Lib.hid hy) (Lib.hid hd) (by simpa using c1) (by simpa using c2) (by simp; omega) (by omega) (by simp)

set_option maxRecDepth 100000 in
theorem lifted (os : Os) (started : os.Started) (H : Type) (enc : TypeId × Value → H) :
    ReturnsInHanded {} Try.checked os 8 .any (Rows.auWithinSpec.pre6 enc Try.prog Try.f8 Rows.auWithinRow.domain false) (Rows.auWithinSpec.post enc Try.prog Try.f8 false true false false) := by
  refine returnsInHanded_of_change (C := Try.checked) own started (by kernel_rfl) Try.func8
    (ChangeSpec.witness6 (enc := enc) (C := Try.checked) false ⟨#[], #[.int .i64 0, .int .i64 0, .int .i64 0], []⟩ 8 (by kernel_rfl) (by kernel_rfl) (by kernel_rfl) (by kernel_rfl)) ?_
  intro W base args ds gs before hval0 hW hcnd _
  have hval : ∀ (j : Nat) t v, Try.f8.params[j]? = some t → args[j]? = some v → Value.okWide Try.prog W .any base t v := hval0
  have hW' := hW
  obtain ⟨p, q, hA0, hV, rfl, hfz, hnd⟩ := hW
  have hA : DataW.TrodAll enc Try.prog W 0 (fun _ => true) true Try.f8.params.toList args.toList ds p := hA0
  rw [Try.params8] at hA hval
  obtain ⟨v0, vs0, d0, ds0, p0, q0, hargs, rfl, rfl, h0, r0⟩ := trodAll_cons hA
  obtain ⟨v1, vs1, d1, ds1, p1, q1, rfl, rfl, rfl, h1, r1⟩ := trodAll_cons r0
  obtain ⟨v2, vs2, d2, ds2, p2, q2, rfl, rfl, rfl, h2, r2⟩ := trodAll_cons r1
  obtain ⟨rfl, rfl, rfl⟩ := trodAll_nil r2
  obtain rfl : args = #[v0, v1, v2] := by cases args; simp_all
  obtain ⟨rfl, rfl⟩ := trodVars_none hV
  obtain ⟨a0, rfl, rfl, rfl, w0⟩ := open_int Try.underlying2 (hval 0 2 v0 rfl rfl) h0
  obtain ⟨a1, rfl, rfl, rfl, w1⟩ := open_int Try.underlying2 (hval 1 2 v1 rfl rfl) h1
  obtain ⟨a2, rfl, rfl, rfl, w2⟩ := open_int Try.underlying2 (hval 2 2 v2 rfl rfl) h2
  clear hA0 hval0
  simp only [List.append_nil] at hW'
  refine (walk a0 a1 a2 w0 w1 w2 W).mono fun e W' ⟨he, hg⟩ => ?_
  subst he
  exact ⟨_, rfl, post_of_same (pa := []) (pv := []) hW' (fun _ _ _ => (trodAll_cons_mk (shut_bool Try.underlying4 _) trodAll_mk0)) (fun sp _ => (trodAll_cons_mk (shut_int Try.underlying2 w0) (trodAll_cons_mk (shut_int Try.underlying2 w1) (trodAll_cons_mk (shut_int Try.underlying2 w2) trodAll_mk0)))) (fun _ _ => rfl) rfl
    (hg.grown.frame _) hg.2 (ok_one (by kernel_rfl) rfl (okWide_bool_mk Try.underlying4 _))⟩

theorem over : Rows.auWithinRow.holds Try.pinned (OpenSpec.ofChange Rows.auWithinSpec) :=
  OpenClaim.holds_of_wide 8 Try.f8 rfl rfl rfl rfl rfl rfl rfl ⟨rfl, rfl, rfl, rfl, rfl⟩ rfl rfl rfl rfl rfl (by kernel_rfl) Try.func8 (by kernel_rfl)
    (of_decide_eq_true (by kernel_rfl)) (by unfold Func.isWrapper; first | (rw [if_pos (by decide +kernel)]; kernel_rfl) | (rw [if_neg (by decide +kernel)]; exact ⟨rfl, rfl⟩))
    (fun os started H enc _ => lifted os started H enc)

/-- The statement. -/
theorem proved : Rows.AuWithinSaid := over
#print axioms proved
end Go.Proofs.Yteiohfgogpcmhaa.lawAuWithin
