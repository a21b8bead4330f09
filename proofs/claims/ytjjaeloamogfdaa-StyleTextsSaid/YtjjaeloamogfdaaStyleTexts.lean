/-
  A text is right just if it says nothing but its units, and these are not too many: for every input, no conditions.
-/
import Derived.Test.YtjjaeloamogfdaaView5
import Derived.Test.YtjjaeloamogfdaaLaw
import Derived.Test.YtjjaeloamogfdaaTextLo
import Derived.Test.YtjjaeloamogfdaaTextHi
import Derived.ProofKit
import Derived.OpenShut
import Derived.BigGuard
namespace Go.Proofs.Ytjjaeloamogfdaa.lawStyleTexts
open Go.ChangeShapes Go.WideShapes Go.ChangeAt Go.RowKit Go.Proofs.Ytjjaeloamogfdaa
set_option linter.unusedVariables false

theorem own : ownKnob Try.prog.godebug = none := by kernel_rfl

theorem walk (W : World) (A : Option Addr) (n c : Nat) (l : List Int) (hm : c ≤ maxLen) (hS : Sl u16E W A n c l) (hl : ∀ r ∈ l, U16 r) (many : Int) (wm : (Lit.int .u8 many).wf = true) (which : Int) (ww : (Lit.int .u8 which).wf = true) :
    Calls Try.prog 7 #[.slice A n c, .int .u8 many, .int .u8 which] W fun e w' => e = .returned (.bool true) ∧ Below W.heap.size W w' := by
  have ww : 0 ≤ which ∧ which ≤ 255 := by
    simp [Lit.wf, IntKind.min, IntKind.max, IntKind.signed, IntKind.bits] at ww
    omega
  have wm : 0 ≤ many ∧ many ≤ 255 := by
    simp [Lit.wf, IntKind.min, IntKind.max, IntKind.signed, IntKind.bits] at wm
    omega
  obtain ⟨u, rfl⟩ := Int.eq_ofNat_of_zero_le ww.1
  obtain ⟨m, rfl⟩ := Int.eq_ofNat_of_zero_le wm.1
  by_cases h : (u : Int) % 16 ≤ 6
  · exact text_lo W A n c l hm hS m u (by omega) (by omega) (Lib.hid (by omega))
  · exact text_hi W A n c l hm hS m u (by omega) (by omega) (Lib.hid (by omega))

set_option maxRecDepth 100000 in
theorem lifted (os : Os) (started : os.Started) (H : Type) (enc : TypeId × Value → H) :
    ReturnsInHanded {} Try.checked os 7 .any (Rows.styleTextsSpec.pre6 enc Try.prog Try.f7 Rows.styleTextsRow.domain false) (Rows.styleTextsSpec.post enc Try.prog Try.f7 false true false false) := by
  refine returnsInHanded_of_change (C := Try.checked) own started (by kernel_rfl) Try.func7
    (ChangeSpec.witness6 (enc := enc) (C := Try.checked) false ⟨#[], #[.slice none 0 0, .int .u8 0, .int .u8 0], []⟩ 7 (by kernel_rfl) (by kernel_rfl) (by kernel_rfl) (by kernel_rfl)) ?_
  intro W base args ds gs before hval0 hW hcnd _
  have hval : ∀ (j : Nat) t v, Try.f7.params[j]? = some t → args[j]? = some v → Value.okWide Try.prog W .any base t v := hval0
  have hW' := hW
  obtain ⟨p, q, hA0, hV, rfl, hfz, hnd⟩ := hW
  have hA : DataW.TrodAll enc Try.prog W 0 (fun _ => true) true Try.f7.params.toList args.toList ds p := hA0
  rw [Try.params7] at hA hval
  obtain ⟨v0, vs0, d0, ds0, p0, q0, hargs, rfl, rfl, h0, r0⟩ := trodAll_cons hA
  obtain ⟨v1, vs1, d1, ds1, p1, q1, rfl, rfl, rfl, h1, r1⟩ := trodAll_cons r0
  obtain ⟨v2, vs2, d2, ds2, p2, q2, rfl, rfl, rfl, h2, r2⟩ := trodAll_cons r1
  obtain ⟨rfl, rfl, rfl⟩ := trodAll_nil r2
  obtain rfl : args = #[v0, v1, v2] := by cases args; simp_all
  obtain ⟨rfl, rfl⟩ := trodVars_none hV
  obtain ⟨A0, n0, c0, l0, rfl, m0, s0, o0⟩ := view_u16s (hval 0 26 v0 rfl rfl) h0
  obtain ⟨a1, rfl, -, -, w1⟩ := open_int Try.underlying5 (hval 1 5 v1 rfl rfl) h1
  obtain ⟨a2, rfl, -, -, w2⟩ := open_int Try.underlying5 (hval 2 5 v2 rfl rfl) h2
  refine (walk W A0 n0 c0 l0 m0 s0 o0 a1 w1 a2 w2).mono fun e W' ⟨he, hg⟩ => ?_
  subst he
  exact ⟨_, rfl, law_post laidOut (by kernel_rfl) rfl Try.underlying4 rfl hW' rfl rfl rfl hg⟩

theorem over : Rows.styleTextsRow.holds Try.pinned (OpenSpec.ofChange Rows.styleTextsSpec) :=
  OpenClaim.holds_of_wide 7 Try.f7 rfl rfl rfl rfl rfl rfl rfl ⟨rfl, rfl, rfl, rfl, rfl⟩ rfl rfl rfl rfl rfl (by kernel_rfl) Try.func7 (by kernel_rfl)
    (of_decide_eq_true (by kernel_rfl)) (by unfold Func.isWrapper; first | (rw [if_pos (by decide +kernel)]; kernel_rfl) | (rw [if_neg (by decide +kernel)]; exact ⟨rfl, rfl⟩))
    (fun os started H enc _ => lifted os started H enc)

/-- The statement. -/
theorem proved : Rows.StyleTextsSaid := over
#print axioms proved
end Go.Proofs.Ytjjaeloamogfdaa.lawStyleTexts
