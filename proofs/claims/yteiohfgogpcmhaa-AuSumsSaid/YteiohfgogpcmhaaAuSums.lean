/-
  What au.Sum answers is the document's sum of any numbers, and what is handed in stays: for every input, no conditions.
-/
import Derived.Test.YteiohfgogpcmhaaWorks
import Derived.Test.YteiohfgogpcmhaaLaw
import Derived.Test.YteiohfgogpcmhaaSumRef
import Derived.ProofKit
import Derived.OpenShut
import Derived.BigGuard
import Derived.Deep.QuietTactic
import Derived.BigQuiet
namespace Go.Proofs.Yteiohfgogpcmhaa.lawAuSums
open Go.ChangeShapes Go.WideShapes Go.ChangeAt Go.RowKit Go.Proofs.Yteiohfgogpcmhaa
set_option linter.unusedVariables false

theorem own : ownKnob Try.prog.godebug = none := by kernel_rfl

theorem more_ {w : World} {B B' : Nat} {A : Option Addr} {zs : List Int} (h : Ints w B A zs) (hB : B ≤ B') : Ints w B' A zs :=
  ⟨h.1, fun hl => by
    obtain ⟨a, e, hb, hc⟩ := h.2 hl
    exact ⟨a, e, Nat.lt_of_lt_of_le hb hB, hc⟩⟩

set_option maxRecDepth 200000 in
set_option maxHeartbeats 800000 in
theorem small_ (A : Option Addr) (n cA : Nat) (l : List Int) (w : World) (hl : Hid (n = l.length)) (hsz : n ≤ 300) (hAl : Hid (Ints w w.heap.size A l)) (hA : Hid (A = none → n = 0 ∧ cA = 0)) :
    Calls Try.prog 4 #[.slice A n cA] w fun e w' => e = .returned (.bool true) ∧ Below w.heap.size w w' := by
  have hown0 := Lib.hid (World.ownsRow_lit (base := w.heap.size) (e := 2) (size := 1) w #[] 0 (Nat.le_refl _) (Nat.zero_le _) (by rfl))
  have hb0 := Lib.hid ((Below.refl w.heap.size w).alloc (Nat.le_refl _) (.cells #[] 2))
  obtain ⟨X, hX⟩ : ∃ X, Hid (cutI l.sum = X) := ⟨_, Lib.hid rfl⟩
  obtain ⟨G, hG⟩ : ∃ G, Hid (farI l.sum = G) := ⟨_, Lib.hid rfl⟩
  have q1 : (X == X) = true := by simp
  have q2 : (G == G) = true := by simp
  go_enter Try.func4, Try.ntmps4
  go_wp2_with (at_builtin; refine append_ints rfl (.tmp 13) (.tmp 14) rfl w.heap.size _ 0 [] rfl hown0.out w.heap.size A n cA l rfl hA.out hl (hAl.out.keep hb0.out) (by omega) (by simp) ?_; intro v1 w1 hown1 hgr1; have hb1 := Lib.hid (hb0.out.grown hgr1 (by simp) (fun k hk => (hown0.out.lt k hk).1)); clear hgr1; simp only [Nat.zero_add, List.nil_append] at hown1; obtain ⟨A1, c1, rfl, hl1, hI1x⟩ := ints_own hown1 hAl.out.1; have hI1 := Lib.hid hI1x; have hl1' := Lib.hid hl1; clear hown1 hI1x hl1)
  refine (sum_any A1 c1 n l _ hI1.out hl1' (by omega)).mono ?_; rintro e w2 ⟨rfl, hq2⟩
  rw [hX.out, hG.out]
  have hb2 := Lib.hid (hb1.out.trans (hq2.1.mono hb1.out.size))
  have hI2 := Lib.hid (more_ (hI1.out.keep hq2.1) hq2.1.size)
  have hA2 := Lib.hid (more_ (hAl.out.keep hb2.out) hb2.out.size)
  clear hq2
  go_wp2_with fail
  refine (refsum_any A cA n l _ hA2.out hl (by omega)).mono ?_; rintro e w3 ⟨rfl, hq3⟩
  rw [hX.out, hG.out]
  have hb3 := Lib.hid (hb2.out.trans (hq3.mono hb2.out.size))
  have hI3 := Lib.hid (more_ (hI2.out.keep hq3) hq3.size)
  have hA3 := Lib.hid (more_ (hA2.out.keep hq3) hq3.size)
  clear hq3
  have hst := Lib.hid (Below.refl w3.heap.size w3)
  go_wp2_with fail
  go_loopw [8] (fun i wr => ∃ k : Nat, k ≤ n ∧ i = .int .i64 k ∧ Hid (Below w3.heap.size w3 wr)) (fun i _ => n - (intOf i).toNat)
  case atStart => exact ⟨0, Nat.zero_le _, rfl, hst⟩
  case round =>
    obtain ⟨k, hk, rfl, hinv⟩ := hrel
    by_cases hlt : k < n
    · have hkl : Hid (k < l.length) := Lib.hid (by rw [← hl.out]; exact hlt)
      obtain ⟨a, rfl, hab, hac⟩ := (hI3.out.keep hinv.out).2 (Nat.lt_of_le_of_lt (Nat.zero_le _) hkl.out)
      obtain ⟨b, rfl, hbb, hbc⟩ := (hA3.out.keep hinv.out).2 (Nat.lt_of_le_of_lt (Nat.zero_le _) hkl.out)
      have h1 := hac k hkl.out
      have h2 := hbc k hkl.out
      clear hac hbc hab hbb
      generalize l.getD k 0 = x at *
      have q3 : (x == x) = true := by simp
      have q4 : (x != x) = false := by simp
      have hi1 : (0 : Int) ≤ (k : Int) := by omega
      have hi2 : (k : Int) < (n : Int) := by omega
      go_wp2_with fail
      go_quiet (fail)
      have hnx := Lib.hid (hinv.out.trans ((Qt.refl w3.heap.size wr).drewN nq).1)
      go_wp2_with fail
      go_roundw
      case rel => exact ⟨k + 1, by omega, by go_num, hnx⟩
      case measure => simp [intOf]; omega
    · have hb4 := Lib.hid (hb3.out.trans (hinv.out.mono hb3.out.size))
      have hkn : ¬ k < n := hlt
      go_wp2_with fail
      refine (works_any _).mono ?_; rintro e w5 ⟨rfl, hq5⟩
      have hb5 := Lib.hid (hb4.out.trans (hq5.1.mono hb4.out.size))
      clear hq5
      go_wp2_with fail
      go_ret
      exact ⟨rfl, hb5.out⟩

set_option maxRecDepth 200000 in
theorem great_ (A : Option Addr) (n cA : Nat) (w : World) (hsz : ¬ n ≤ 300) (hn : n ≤ 17592186044416) :
    Calls Try.prog 4 #[.slice A n cA] w fun e w' => e = .returned (.bool true) ∧ Below w.heap.size w w' := by
  go_enter Try.func4, Try.ntmps4
  go_wp2_with fail
  refine (works_any _).mono ?_; rintro e w' ⟨rfl, hq⟩
  go_wp2_with fail
  go_ret
  exact ⟨rfl, hq.1⟩

theorem walk (A : Option Addr) (n cA : Nat) (l : List Int) (hl : n = l.length) (hn : n ≤ 17592186044416) (hA : A = none → n = 0 ∧ cA = 0) {w : World} (hAl : Ints w w.heap.size A l) (w' : World) (hw : w' = w) :
    Calls Try.prog 4 #[.slice A n cA] w' fun e w'' => e = .returned (.bool true) ∧ Below w'.heap.size w' w'' := by
  subst hw
  by_cases h : n ≤ 300
  · exact small_ A n cA l _ (Lib.hid hl) h (Lib.hid hAl) (Lib.hid hA)
  · exact great_ A n cA _ h hn

set_option maxRecDepth 100000 in
theorem lifted (os : Os) (started : os.Started) (H : Type) (enc : TypeId × Value → H) :
    ReturnsInHanded {} Try.checked os 4 .any (Rows.auSumsSpec.pre6 enc Try.prog Try.f4 Rows.auSumsRow.domain false) (Rows.auSumsSpec.post enc Try.prog Try.f4 false true false false) := by
  refine returnsInHanded_of_change_sized (C := Try.checked) own started (by kernel_rfl) Try.func4
    (ChangeSpec.witness6 (enc := enc) (C := Try.checked) false ⟨#[], #[.slice none 0 0], []⟩ 4 (by kernel_rfl) (by kernel_rfl) (by kernel_rfl) (by kernel_rfl)) ?_
  intro W base args ds gs before hval0 hW hcnd hsz0 _
  have hsz : (DataW.weightsEach Try.prog (Try.f4.params.toList ++ Rows.auSumsSpec.plain.varTypes Try.prog) (ds ++ gs)).all (· ≤ reachBytes) = true := hsz0
  clear hsz0
  have hval : ∀ (j : Nat) t v, Try.f4.params[j]? = some t → args[j]? = some v → Value.okWide Try.prog W .any base t v := hval0
  have hW' := hW
  obtain ⟨p, q, hA0, hV, rfl, hfz, hnd⟩ := hW
  have hA : DataW.TrodAll enc Try.prog W 0 (fun _ => true) true Try.f4.params.toList args.toList ds p := hA0
  rw [Try.params4] at hA hval hsz
  obtain ⟨v0, vs0, d0, ds0, p0, q0, hargs, rfl, rfl, h0, r0⟩ := trodAll_cons hA
  obtain ⟨rfl, rfl, rfl⟩ := trodAll_nil r0
  obtain rfl : args = #[v0] := by cases args; simp_all
  obtain ⟨rfl, rfl⟩ := trodVars_none hV
  obtain ⟨A0, n0, c0, z0, rfl, e0, l0, m0, N0, I0, D0⟩ := view_ints (hval 0 32 v0 rfl rfl) h0
  have b0 := ints_room hsz (j := 0) rfl rfl e0 D0
  refine (walk A0 n0 c0 z0 e0 b0 N0 I0 W rfl).mono fun e W' ⟨he, hg⟩ => ?_
  subst he
  exact ⟨_, rfl, law_post laidOut (by kernel_rfl) rfl Try.underlying4 rfl hW' rfl rfl rfl hg⟩

theorem over : Rows.auSumsRow.holds Try.pinned (OpenSpec.ofChange Rows.auSumsSpec) :=
  OpenClaim.holds_of_wide 4 Try.f4 rfl rfl rfl rfl rfl rfl rfl ⟨rfl, rfl, rfl, rfl, rfl⟩ rfl rfl rfl rfl rfl (by kernel_rfl) Try.func4 (by kernel_rfl)
    (of_decide_eq_true (by kernel_rfl)) (by unfold Func.isWrapper; first | (rw [if_pos (by decide +kernel)]; kernel_rfl) | (rw [if_neg (by decide +kernel)]; exact ⟨rfl, rfl⟩))
    (fun os started H enc _ => lifted os started H enc)

/-- The statement. -/
theorem proved : Rows.AuSumsSaid := over
#print axioms proved
end Go.Proofs.Yteiohfgogpcmhaa.lawAuSums
