/-
  The sums of any sides, one by one and across and down, are the document's: for every input, no conditions.
-/
import Derived.Test.YtflehhepnmcdeaaWorks2
import Derived.Test.YtflehhepnmcdeaaView4
import Derived.Test.YtflehhepnmcdeaaLaw
import Derived.Test.YtflehhepnmcdeaaRef2e
import Derived.ProofKit
import Derived.OpenShut
import Derived.BigGuard
namespace Go.Proofs.Ytflehhepnmcdeaa.lawEdgesSums
open Go.ChangeShapes Go.WideShapes Go.ChangeAt Go.RowKit Go.Proofs.Ytflehhepnmcdeaa
set_option linter.unusedVariables false

theorem own : ownKnob Try.prog.godebug = none := by kernel_rfl

theorem infoSides : (Try.prog.info? 24).map (fun i => (i.zero, i.size, i.bytes)) = some (some (.agg #[.int .i64 0, .int .i64 0, .int .i64 0, .int .i64 0]), 4, 32) := by kernel_rfl

set_option maxRecDepth 200000 in
theorem great_ (W : World) (A : Option Addr) (n c : Nat) (hn : 100 < n) (hm : n ≤ maxLen) :
    Calls Try.prog 3 #[.slice A n c] W fun e w' => e = .returned (.bool true) ∧ Below W.heap.size W w' := by
  unfold maxLen at hm
  go_enter Try.func3, Try.ntmps3
  go_wp2_with fail
  refine (works2_any _).mono ?_; rintro e w' ⟨rfl, hq⟩
  go_wp2_with fail
  go_ret
  exact ⟨rfl, hq⟩

set_option maxRecDepth 200000 in
set_option maxHeartbeats 3200000 in
theorem small_ (W : World) (A : Option Addr) (n c : Nat) (l : List Four) (h : Hid (Sl fourE W A n c l)) (hok : Hid (∀ r ∈ l, FourOk r)) (hn : n ≤ 100) :
    Calls Try.prog 3 #[.slice A n c] W fun e w' => e = .returned (.bool true) ∧ Below W.heap.size W w' := by
  have own0 := Lib.hid (World.ownsRow_lit (base := W.heap.size) (e := 24) (size := 4) W #[] 0 (Nat.le_refl _) (Nat.zero_le _) (by rfl))
  have b0 := Lib.hid ((Below.refl W.heap.size W).alloc (Nat.le_refl _) (.cells #[] 24))
  have hA := Lib.hid h.out.nil
  have hl := Lib.hid h.out.len
  have hbase : Hid (W.heap.size ≤ (W.alloc (.cells #[] 24)).heap.size) := Lib.hid (by simp)
  have f1 : ∀ (w : World) (A : Option Addr) (c : Nat), Sl fourE w A n c l → Hid (Calls Try.prog 11 #[.slice A n c] w fun e w' => e = .returned (.tuple #[.agg #[.int .i64 (cutI (sideI l 0)), .int .i64 (cutI (sideI l 1)), .int .i64 (cutI (sideI l 2)), .int .i64 (cutI (sideI l 3))], .bool (farI (sideI l 0) || farI (sideI l 1) || farI (sideI l 2) || farI (sideI l 3))]) ∧ Below w.heap.size w w') := fun w A c hs => Lib.hid (sides_any A n c l w hs hok.out (by omega))
  have f2 : ∀ (w : World), Below W.heap.size W w → Hid (Calls Try.prog 12 #[.slice A n c] w fun e w' => e = .returned (.tuple #[.agg #[.int .i64 (cutI (sideI l 0)), .int .i64 (cutI (sideI l 1)), .int .i64 (cutI (sideI l 2)), .int .i64 (cutI (sideI l 3))], .bool (farI (sideI l 0) || farI (sideI l 1) || farI (sideI l 2) || farI (sideI l 3))]) ∧ Below w.heap.size w w') := fun w hb => Lib.hid (rSides_any A n c l w (h.out.below hb) hok.out (by omega))
  have f3 : ∀ (w : World) (A : Option Addr) (c : Nat), Sl fourE w A n c l → Hid (Calls Try.prog 13 #[.slice A n c] w fun e w' => e = .returned (.tuple #[.int .i64 (cutI (acrossI l)), .int .i64 (cutI (downI l)), .bool (farI (acrossI l) || farI (downI l))]) ∧ Below w.heap.size w w') := fun w A c hs => Lib.hid (across_any A n c l w hs hok.out (by omega))
  have f4 : ∀ (w : World), Below W.heap.size W w → Hid (Calls Try.prog 14 #[.slice A n c] w fun e w' => e = .returned (.tuple #[.int .i64 (cutI (acrossI l)), .int .i64 (cutI (downI l)), .bool (farI (acrossI l) || farI (downI l))]) ∧ Below w.heap.size w w') := fun w hb => Lib.hid (rAcross_any A n c l w (h.out.below hb) hok.out (by omega))
  generalize cutI (sideI l 0) = X at *
  generalize cutI (sideI l 1) = Y at *
  generalize cutI (sideI l 2) = Z at *
  generalize cutI (sideI l 3) = U at *
  generalize (farI (sideI l 0) || farI (sideI l 1) || farI (sideI l 2) || farI (sideI l 3)) = G at *
  generalize cutI (acrossI l) = P at *
  generalize cutI (downI l) = Q at *
  generalize (farI (acrossI l) || farI (downI l)) = F at *
  have q0 := sides_eq
  go_enter Try.func3, Try.ntmps3
  go_wp2_with (at_builtin; refine append_row (f := fourE) (l := []) rfl (.tmp 18) (.tmp 19) 22 24 rfl _ 32 Try.underlying22 infoSides rfl (by decide) (by decide) fourE_len fourE_one W.heap.size _ 0 rfl own0.out W.heap.size A n c l rfl hA.out hl (h.out.at_.keep b0.out) (by omega) hbase.out ?_; intro v1 w1 h3 h4 h5)
  have hb1 := b0.out.grown h4 (by simp) (fun k hk => (own0.out.lt k hk).1)
  simp only [Nat.zero_add, List.nil_append] at h3
  obtain ⟨A1, c1, rfl, S1, -⟩ := Sl.own h3 fourE_len (by omega)
  clear h3 h4 h5 own0 b0 hbase
  refine (f1 _ _ _ S1).out.mono ?_; rintro e w2 ⟨rfl, hq⟩
  have hb2 := hb1.trans (hq.mono hb1.size)
  clear hq hb1 S1 f1
  go_wp2_with fail
  generalize hW : World.alloc w2 _ = V2
  obtain ⟨b3, hb3⟩ : Box V2 w2.heap.size [.int .i64 X, .int .i64 Y, .int .i64 Z, .int .i64 U] ∧ Below W.heap.size W V2 := by
    subst hW
    exact ⟨Box.new w2 [_, _, _, _] _, hb2.alloc hb2.size _⟩
  clear hW hb2
  refine (f2 _ hb3).out.mono ?_; rintro e w3 ⟨rfl, hq⟩
  have hb4 := Lib.hid (hb3.trans (hq.mono hb3.size))
  have b3 := b3.below hq
  clear hq hb3 f2
  generalize w2.heap.size = g3 at *
  have own1 : ((w3.alloc (.cells #[.int .i64 X, .int .i64 Y, .int .i64 Z, .int .i64 U] 24)).alloc (.cells #[] 24)).ownsRow W.heap.size 24 4 (.slice (some ⟨w3.heap.size + 1, 0, none⟩) 0 0) 0 [] := by
    have h := World.ownsRow_lit (base := W.heap.size) (e := 24) (size := 4) (w3.alloc (.cells #[.int .i64 X, .int .i64 Y, .int .i64 Z, .int .i64 U] 24)) #[] 0 (by have := hb4.out.size; simp; omega) (Nat.zero_le _) (by rfl)
    simpa using h
  have own1 := Lib.hid own1
  have b1 := Lib.hid ((hb4.out.alloc hb4.out.size (.cells #[.int .i64 X, .int .i64 Y, .int .i64 Z, .int .i64 U] 24)).alloc (by have := hb4.out.size; simp; omega) (.cells #[] 24))
  have hbase1 : Hid (W.heap.size ≤ ((w3.alloc (.cells #[.int .i64 X, .int .i64 Y, .int .i64 Z, .int .i64 U] 24)).alloc (.cells #[] 24)).heap.size) := Lib.hid b1.out.size
  have b3a := (b3.alloc (.cells #[.int .i64 X, .int .i64 Y, .int .i64 Z, .int .i64 U] 24)).alloc (.cells #[] 24)
  have b5a := (Box.new w3 [.int .i64 X, .int .i64 Y, .int .i64 Z, .int .i64 U] 24).alloc (.cells #[] 24)
  go_wp2_with (at_builtin; refine append_row (f := fourE) (l := []) rfl (.tmp 30) (.tmp 31) 22 24 rfl _ 32 Try.underlying22 infoSides rfl (by decide) (by decide) fourE_len fourE_one W.heap.size _ 0 rfl own1.out W.heap.size A n c l rfl hA.out hl (h.out.at_.keep b1.out) (by omega) hbase1.out ?_; intro v2 w4 h3 h4 h5)
  have hw3 := hb4.out.size
  have h4' : World.grownBy _ w4 (some (w3.heap.size + 1)) := h4
  have hg3 : g3 < w3.heap.size := b3.lt
  have c3 := b3a.grown h4' (by simp; omega)
  have c5 := b5a.grown h4' (by simp)
  have hb5 := b1.out.grown h4' (by simp; omega) (fun k hk => by simp at hk; omega)
  simp only [Nat.zero_add, List.nil_append] at h3
  obtain ⟨A2, c2, rfl, S2, -⟩ := Sl.own h3 fourE_len (by omega)
  clear h3 h4 h4' h5 own1 b1 hbase1 b3a b5a b3 hb4 hg3
  refine (f3 _ _ _ S2).out.mono ?_; rintro e w5 ⟨rfl, hq⟩
  have hb6 := hb5.trans (hq.mono hb5.size)
  have c3 := c3.below hq
  have c5 := c5.below hq
  clear hq hb5 S2 f3 hw3
  generalize w3.heap.size = g5 at *
  go_wp2_with fail
  refine (f4 _ hb6).out.mono ?_; rintro e w6 ⟨rfl, hq⟩
  have hb7 := Lib.hid (hb6.trans (hq.mono hb6.size))
  have c3 := c3.below hq
  have c5 := c5.below hq
  clear hq hb6 f4
  have p3 := c3.four
  have p5 := c5.four
  have hh : (X == X && Y == Y && Z == Z && U == U) = true := by simp
  go_wp2_with fail
  refine (works2_any _).mono ?_; rintro e w7 ⟨rfl, hq⟩
  have hb8 := Lib.hid (hb7.out.trans (hq.mono hb7.out.size))
  clear hq
  go_wp2_with fail
  go_ret
  exact ⟨rfl, hb8.out⟩

theorem walk (W : World) (A : Option Addr) (n c : Nat) (l : List Four) (m0 : c ≤ maxLen) (s0 : Sl fourE W A n c l) (o0 : ∀ r ∈ l, FourOk r) :
    Calls Try.prog 3 #[.slice A n c] W fun e w' => e = .returned (.bool true) ∧ Below W.heap.size W w' := by
  by_cases hn : n ≤ 100
  · exact small_ W A n c l (Lib.hid s0) (Lib.hid o0) hn
  · exact great_ W A n c (by omega) (Nat.le_trans s0.cap m0)

set_option maxRecDepth 100000 in
theorem lifted (os : Os) (started : os.Started) (H : Type) (enc : TypeId × Value → H) :
    ReturnsInHanded {} Try.checked os 3 .any (Rows.edgesSumsSpec.pre6 enc Try.prog Try.f3 Rows.edgesSumsRow.domain false) (Rows.edgesSumsSpec.post enc Try.prog Try.f3 false true false false) := by
  refine returnsInHanded_of_change (C := Try.checked) own started (by kernel_rfl) Try.func3
    (ChangeSpec.witness6 (enc := enc) (C := Try.checked) false ⟨#[], #[.slice none 0 0], []⟩ 3 (by kernel_rfl) (by kernel_rfl) (by kernel_rfl) (by kernel_rfl)) ?_
  intro W base args ds gs before hval0 hW hcnd _
  have hval : ∀ (j : Nat) t v, Try.f3.params[j]? = some t → args[j]? = some v → Value.okWide Try.prog W .any base t v := hval0
  have hW' := hW
  obtain ⟨p, q, hA0, hV, rfl, hfz, hnd⟩ := hW
  have hA : DataW.TrodAll enc Try.prog W 0 (fun _ => true) true Try.f3.params.toList args.toList ds p := hA0
  rw [Try.params3] at hA hval
  obtain ⟨v0, vs0, d0, ds0, p0, q0, hargs, rfl, rfl, h0, r0⟩ := trodAll_cons hA
  obtain ⟨rfl, rfl, rfl⟩ := trodAll_nil r0
  obtain rfl : args = #[v0] := by cases args; simp_all
  obtain ⟨rfl, rfl⟩ := trodVars_none hV
  obtain ⟨A0, n0, c0, l0, rfl, m0, s0, o0⟩ := view_sidess (hval 0 22 v0 rfl rfl) h0
  refine (walk W A0 n0 c0 l0 m0 s0 o0).mono fun e W' ⟨he, hg⟩ => ?_
  subst he
  exact ⟨_, rfl, law_post laidOut (by kernel_rfl) rfl Try.underlying4 rfl hW' rfl rfl rfl hg⟩

theorem over : Rows.edgesSumsRow.holds Try.pinned (OpenSpec.ofChange Rows.edgesSumsSpec) :=
  OpenClaim.holds_of_wide 3 Try.f3 rfl rfl rfl rfl rfl rfl rfl ⟨rfl, rfl, rfl, rfl, rfl⟩ rfl rfl rfl rfl rfl (by kernel_rfl) Try.func3 (by kernel_rfl)
    (of_decide_eq_true (by kernel_rfl)) (by unfold Func.isWrapper; first | (rw [if_pos (by decide +kernel)]; kernel_rfl) | (rw [if_neg (by decide +kernel)]; exact ⟨rfl, rfl⟩))
    (fun os started H enc _ => lifted os started H enc)

/-- The statement. -/
theorem proved : Rows.EdgesSumsSaid := over
#print axioms proved
end Go.Proofs.Ytflehhepnmcdeaa.lawEdgesSums
