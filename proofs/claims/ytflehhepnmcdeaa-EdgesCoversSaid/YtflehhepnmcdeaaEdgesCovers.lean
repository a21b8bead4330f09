/-
  The least rectangle around any others is the document's: for every input, no conditions.
-/
import Derived.Test.YtflehhepnmcdeaaWorks2
import Derived.Test.YtflehhepnmcdeaaView4
import Derived.Test.YtflehhepnmcdeaaLaw
import Derived.Test.YtflehhepnmcdeaaRef2g
import Derived.ProofKit
import Derived.OpenShut
import Derived.BigGuard
namespace Go.Proofs.Ytflehhepnmcdeaa.lawEdgesCovers
open Go.ChangeShapes Go.WideShapes Go.ChangeAt Go.RowKit Go.Proofs.Ytflehhepnmcdeaa
set_option linter.unusedVariables false

theorem own : ownKnob Try.prog.godebug = none := by kernel_rfl

theorem infoRect2 : (Try.prog.info? 33).map (fun i => (i.zero, i.size, i.bytes)) = some (some (.agg #[.int .i64 0, .int .i64 0, .int .i64 0, .int .i64 0]), 4, 32) := by kernel_rfl

set_option maxRecDepth 200000 in
theorem great_ (W : World) (A : Option Addr) (n c : Nat) (hn : 100 < n) (hm : n ≤ maxLen) :
    Calls Try.prog 5 #[.slice A n c] W fun e w' => e = .returned (.bool true) ∧ Below W.heap.size W w' := by
  unfold maxLen at hm
  go_enter Try.func5, Try.ntmps5
  go_wp2_with fail
  refine (works2_any _).mono ?_; rintro e w' ⟨rfl, hq⟩
  go_wp2_with fail
  go_ret
  exact ⟨rfl, hq⟩

set_option maxRecDepth 200000 in
set_option maxHeartbeats 3200000 in
theorem small_ (W : World) (A : Option Addr) (n c : Nat) (l : List Four) (h : Hid (Sl fourE W A n c l)) (hok : Hid (∀ r ∈ l, FourOk r)) (hn : n ≤ 100) :
    Calls Try.prog 5 #[.slice A n c] W fun e w' => e = .returned (.bool true) ∧ Below W.heap.size W w' := by
  have own0 := Lib.hid (World.ownsRow_lit (base := W.heap.size) (e := 33) (size := 4) W #[] 0 (Nat.le_refl _) (Nat.zero_le _) (by rfl))
  have b0 := Lib.hid ((Below.refl W.heap.size W).alloc (Nat.le_refl _) (.cells #[] 33))
  have hA := Lib.hid h.out.nil
  have hl := Lib.hid h.out.len
  have hbase : Hid (W.heap.size ≤ (W.alloc (.cells #[] 33)).heap.size) := Lib.hid (by simp)
  have f1 : ∀ (w : World) (A : Option Addr) (c : Nat), Sl fourE w A n c l → Hid (Calls Try.prog 21 #[.slice A n c] w fun e w' => e = .returned (.tuple #[.agg #[.int .i64 (cutI (coverX (l.filter somePts))), .int .i64 (cutI (coverY (l.filter somePts))), .int .i64 (cutI (coverW (l.filter somePts))), .int .i64 (cutI (coverH (l.filter somePts)))], .bool (coverFar (l.filter somePts))]) ∧ Below w.heap.size w w') := fun w A c hs => Lib.hid (cover_any A n c l w hs hok.out (by omega))
  have f2 : ∀ (w : World), Below W.heap.size W w → Hid (Calls Try.prog 22 #[.slice A n c] w fun e w' => e = .returned (.tuple #[.agg #[.int .i64 (cutI (coverX (l.filter somePts))), .int .i64 (cutI (coverY (l.filter somePts))), .int .i64 (cutI (coverW (l.filter somePts))), .int .i64 (cutI (coverH (l.filter somePts)))], .bool (coverFar (l.filter somePts))]) ∧ Below w.heap.size w w') := fun w hb => Lib.hid (rCover_any A n c l w (h.out.below hb) hok.out (by omega))
  generalize cutI (coverX (l.filter somePts)) = X at *
  generalize cutI (coverY (l.filter somePts)) = Y at *
  generalize cutI (coverW (l.filter somePts)) = Z at *
  generalize cutI (coverH (l.filter somePts)) = U at *
  generalize coverFar (l.filter somePts) = G at *
  have q0 := rect_eq
  go_enter Try.func5, Try.ntmps5
  go_wp2_with (at_builtin; refine append_row (f := fourE) (l := []) rfl (.tmp 12) (.tmp 13) 38 33 rfl _ 32 Try.underlying38 infoRect2 rfl (by decide) (by decide) fourE_len fourE_one W.heap.size _ 0 rfl own0.out W.heap.size A n c l rfl hA.out hl (h.out.at_.keep b0.out) (by omega) hbase.out ?_; intro v1 w1 h3 h4 h5)
  have hb1 := b0.out.grown h4 (by simp) (fun k hk => (own0.out.lt k hk).1)
  simp only [Nat.zero_add, List.nil_append] at h3
  obtain ⟨A1, c1, rfl, S1, -⟩ := Sl.own h3 fourE_len (by omega)
  clear h3 h4 h5 own0 b0 hbase
  refine (f1 _ _ _ S1).out.mono ?_; rintro e w2 ⟨rfl, hq⟩
  have hb2 := hb1.trans (hq.mono hb1.size)
  clear hq hb1 S1 f1
  go_wp2_with fail
  generalize hW : World.alloc w2 _ = V2
  obtain ⟨b3, hb3⟩ : Box V2 w2.heap.size [.int .i64 X, .int .i64 Y, .int .i64 Z, .int .i64 U] ∧ Below W.heap.size W V2 := by
    subst hW
    exact ⟨Box.new w2 [_, _, _, _] _, hb2.alloc hb2.size _⟩
  clear hW hb2
  refine (f2 _ hb3).out.mono ?_; rintro e w3 ⟨rfl, hq⟩
  have hb4 := hb3.trans (hq.mono hb3.size)
  have b3 := b3.below hq
  clear hq hb3 f2
  generalize w2.heap.size = g3 at *
  have p3 := (b3.alloc (.cells #[.int .i64 X, .int .i64 Y, .int .i64 Z, .int .i64 U] 33)).four
  have p5 := (Box.new w3 [.int .i64 X, .int .i64 Y, .int .i64 Z, .int .i64 U] 33).four
  have hb5 := Lib.hid (hb4.alloc hb4.size (.cells #[.int .i64 X, .int .i64 Y, .int .i64 Z, .int .i64 U] 33))
  clear b3 hb4
  have hh : (X == X && Y == Y && Z == Z && U == U) = true := by simp
  go_wp2_with fail
  refine (works2_any _).mono ?_; rintro e w7 ⟨rfl, hq⟩
  have hb8 := Lib.hid (hb5.out.trans (hq.mono hb5.out.size))
  clear hq
  go_wp2_with fail
  go_ret
  exact ⟨rfl, hb8.out⟩

theorem walk (W : World) (A : Option Addr) (n c : Nat) (l : List Four) (m0 : c ≤ maxLen) (s0 : Sl fourE W A n c l) (o0 : ∀ r ∈ l, FourOk r) :
    Calls Try.prog 5 #[.slice A n c] W fun e w' => e = .returned (.bool true) ∧ Below W.heap.size W w' := by
  by_cases hn : n ≤ 100
  · exact small_ W A n c l (Lib.hid s0) (Lib.hid o0) hn
  · exact great_ W A n c (by omega) (Nat.le_trans s0.cap m0)

set_option maxRecDepth 100000 in
theorem lifted (os : Os) (started : os.Started) (H : Type) (enc : TypeId × Value → H) :
    ReturnsInHanded {} Try.checked os 5 .any (Rows.edgesCoversSpec.pre6 enc Try.prog Try.f5 Rows.edgesCoversRow.domain false) (Rows.edgesCoversSpec.post enc Try.prog Try.f5 false true false false) := by
  refine returnsInHanded_of_change (C := Try.checked) own started (by kernel_rfl) Try.func5
    (ChangeSpec.witness6 (enc := enc) (C := Try.checked) false ⟨#[], #[.slice none 0 0], []⟩ 5 (by kernel_rfl) (by kernel_rfl) (by kernel_rfl) (by kernel_rfl)) ?_
  intro W base args ds gs before hval0 hW hcnd _
  have hval : ∀ (j : Nat) t v, Try.f5.params[j]? = some t → args[j]? = some v → Value.okWide Try.prog W .any base t v := hval0
  have hW' := hW
  obtain ⟨p, q, hA0, hV, rfl, hfz, hnd⟩ := hW
  have hA : DataW.TrodAll enc Try.prog W 0 (fun _ => true) true Try.f5.params.toList args.toList ds p := hA0
  rw [Try.params5] at hA hval
  obtain ⟨v0, vs0, d0, ds0, p0, q0, hargs, rfl, rfl, h0, r0⟩ := trodAll_cons hA
  obtain ⟨rfl, rfl, rfl⟩ := trodAll_nil r0
  obtain rfl : args = #[v0] := by cases args; simp_all
  obtain ⟨rfl, rfl⟩ := trodVars_none hV
  obtain ⟨A0, n0, c0, l0, rfl, m0, s0, o0⟩ := view_rects (hval 0 38 v0 rfl rfl) h0
  refine (walk W A0 n0 c0 l0 m0 s0 o0).mono fun e W' ⟨he, hg⟩ => ?_
  subst he
  exact ⟨_, rfl, law_post laidOut (by kernel_rfl) rfl Try.underlying4 rfl hW' rfl rfl rfl hg⟩

theorem over : Rows.edgesCoversRow.holds Try.pinned (OpenSpec.ofChange Rows.edgesCoversSpec) :=
  OpenClaim.holds_of_wide 5 Try.f5 rfl rfl rfl rfl rfl rfl rfl ⟨rfl, rfl, rfl, rfl, rfl⟩ rfl rfl rfl rfl rfl (by kernel_rfl) Try.func5 (by kernel_rfl)
    (of_decide_eq_true (by kernel_rfl)) (by unfold Func.isWrapper; first | (rw [if_pos (by decide +kernel)]; kernel_rfl) | (rw [if_neg (by decide +kernel)]; exact ⟨rfl, rfl⟩))
    (fun os started H enc _ => lifted os started H enc)

/-- The statement. -/
theorem proved : Rows.EdgesCoversSaid := over
#print axioms proved
end Go.Proofs.Ytflehhepnmcdeaa.lawEdgesCovers
