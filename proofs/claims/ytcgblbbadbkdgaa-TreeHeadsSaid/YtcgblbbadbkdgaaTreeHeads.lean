/-
  Each prefix of a tree that Check takes is one; what is wrong with a tree is so whatever stands behind the node: for every input, no conditions.
-/
import Derived.Test.YtcgblbbadbkdgaaWorks5
import Derived.Test.YtcgblbbadbkdgaaLawCore
import Derived.Test.YtcgblbbadbkdgaaVast5
import Derived.Test.YtcgblbbadbkdgaaHeads
import Derived.Deep.DeepCutAuto
import Derived.Deep.RegionHeld3
import Derived.SizedLaws
import Derived.ProofKit
import Derived.OpenShut
import Derived.BigGuard
namespace Go.Proofs.Ytcgblbbadbkdgaa.lawTreeHeads
open Go.ChangeShapes Go.WideShapes Go.ChangeAt Go.RowKit Go.Proofs.Ytcgblbbadbkdgaa
set_option linter.unusedVariables false

theorem own : ownKnob Try.prog.godebug = none := by kernel_rfl

set_option maxRecDepth 100000 in
set_option maxHeartbeats 3200000 in
theorem walk (W : World) (t : TreeV) (ot : TreeOk W t) (k : Int) (hk : (Lit.int .u16 k).wf = true) (A : Option Addr) (n c : Nat) (l : List NodeV) (hc : c ≤ maxLen) (hS : Sl nodeE W A n c l) (ol : ∀ r ∈ l, NodeOk W r) :
    Calls Try.prog 7 #[.agg #[.slice t.na t.nn t.nc, .slice t.aa t.an t.ac, .int .i64 t.view], .int .u16 k, .slice A n c] W fun e w' => e = .returned (.bool true) ∧ Below W.heap.size W w' := by
  have hk : 0 ≤ k ∧ k ≤ 65535 := by
    simp [Lit.wf, IntKind.min, IntKind.max, IntKind.signed, IntKind.bits] at hk
    omega
  obtain ⟨m, rfl⟩ := Int.eq_ofNat_of_zero_le hk.1
  have hk2 : m ≤ 65535 := by omega
  clear hc ol hk
  replace hS := Lib.hid hS
  have hw := fun w => works5_any w
  have hln := Lib.hid ot.at_.nodes.len
  have hlm := Lib.hid ot.at_.advs.len
  go_enter Try.func7, Try.ntmps7
  go_upto_region 1 with fail
  generalize hW : World.alloc W _ = V
  have hT := TBox.start ot.at_ hW
  obtain ⟨g, hg⟩ : ∃ g, g = W.heap.size := ⟨_, rfl⟩
  rw [← hg] at hT ⊢
  clear hW hg
  obtain ⟨k0, k1, k2⟩ := hT.cells
  have ks := small_h t V (Lib.hid (ot.below hT.hb))
  replace hT := Lib.hid hT
  replace ot := Lib.hid ot
  cases hsm : smallB t
  case false =>
    rw [hsm] at ks
    go_wp2_with (first | (go_at_call 15; refine ks.mono ?_; rintro e w1 ⟨rfl, hb1⟩; have hT1 := Lib.hid (hT.out.below hb1)) | (go_at_call 16; refine (hw _).mono ?_; rintro e w2 ⟨rfl, hb2⟩))
    go_ret
    exact ⟨rfl, hT1.out.hb.trans (hb2.mono hT1.out.hb.size)⟩
  rw [hsm] at ks
  have sm := small_of hsm hln.out
  have hnn := sm.nn
  have han := sm.an
  clear sm hsm
  by_cases hn : 100 < n
  · have hn' : (100 : Int) < (n : Int) := by omega
    go_wp2_with (first | (go_at_call 15; refine ks.mono ?_; rintro e w1 ⟨rfl, hb1⟩; have hT1 := Lib.hid (hT.out.below hb1)) | (go_at_call 16; refine (hw _).mono ?_; rintro e w2 ⟨rfl, hb2⟩))
    go_ret
    exact ⟨rfl, hT1.out.hb.trans (hb2.mono hT1.out.hb.size)⟩
  have hn' : ¬ (100 : Int) < (n : Int) := by omega
  go_upto_region 3 with (go_at_call 15; refine ks.mono ?_; rintro e w1 ⟨rfl, hb1⟩)
  replace hT := Lib.hid (hT.out.below hb1)
  clear ks hb1 k0 k1 k2
  obtain ⟨k0, k1, k2⟩ := hT.out.cells
  have kc := check_h t w1 (Lib.hid hT.out.at_) (by omega) (by omega)
  have hno := Lib.hid (fun ms h1 h2 => heads_no (ns := t.ns) (ms := ms) (av := t.av) (view := t.view) h1 h2)
  have hyes := Lib.hid (fun m h1 h2 h3 => heads_ok (ns := t.ns) (av := t.av) (view := t.view) (m := m) h1 h2 h3)
  have hinv := Lib.hid (fun h => check_all (ns := t.ns) (av := t.av) (view := t.view) h)
  obtain ⟨⟨i, e⟩, hie⟩ : ∃ p, checkI t.ns t.av t.view = p := ⟨_, rfl⟩
  rw [hie] at kc hno hyes hinv
  go_upto_region 4 with (go_at_call 18; refine kc.mono ?_; rintro e w2 ⟨rfl, hb2⟩)
  replace hT := Lib.hid (hT.out.below hb2)
  clear kc hb2 k0 k1 k2
  obtain ⟨k0, k1, k2⟩ := hT.out.cells
  by_cases he : e = 0
  · subst he
    have hpos : 0 < t.nn := by rw [hln.out]; exact whole_pos (hinv.out rfl).1
    obtain ⟨b, hb⟩ : ∃ b, t.na = some b := by
      cases hna : t.na with
      | none => have := (hT.out.at_.nodes.nil hna).1; omega
      | some b => exact ⟨b, rfl⟩
    rw [hb] at k0
    go_upto_region 6 with fail
    generalize hW : World.alloc w2 _ = V2
    obtain ⟨hB2, hT2, hg2⟩ : Box V2 w2.heap.size (treeE t) ∧ TBox W g t V2 ∧ g < w2.heap.size := by
      subst hW
      refine ⟨?_, hT.out.below ((Below.refl _ _).alloc (Nat.le_refl _) _), hT.out.box.lt⟩
      have := Box.new w2 (treeE t) 35
      unfold treeE at this ⊢
      rw [hb] at this ⊢
      exact this
    obtain ⟨h, hh⟩ : ∃ h, h = w2.heap.size := ⟨_, rfl⟩
    rw [← hh] at hB2 hg2 ⊢
    have hWh : W.heap.size ≤ h := by have := hT.out.hb.size; omega
    clear hW hh k0 k1 k2
    obtain ⟨k0, k1, k2⟩ := hT2.cells
    have h0 := hB2.cell 0 _ rfl
    have f0 := hB2.free 0 (by rw [treeE_len]; omega)
    have hlt := hB2.lt
    obtain ⟨q, hq⟩ : ∃ q, 1 + m % t.nn = q := ⟨_, rfl⟩
    have hml : m % t.nn < t.nn := Nat.mod_lt _ hpos
    have e1 : (1 : Int) + (m : Int) % (t.nn : Int) = (q : Int) := by rw [← hq]; simp
    have e2 : Int.tmod (m : Int) (t.nn : Int) = (m : Int) % (t.nn : Int) := by rw [Int.tmod_eq_emod_of_nonneg (by omega)]
    have hq1 : 1 ≤ q := by omega
    have hq2 : q ≤ t.nn := by omega
    have hcap : t.nn ≤ t.nc := hT.out.at_.nodes.cap
    rw [hb] at k0 h0
    have hz : ((t.nn : Int) == 0) = false := by simp; omega
    go_region
    all_goals
      try go_upto_region 7 with fail
      generalize hW : World.drew _ = V3
      have hfacts : TreeAt V3 ⟨some b, q, t.nc, t.ns.take q, t.aa, t.an, t.ac, t.av, t.view⟩ ∧ Box V3 h (treeE ⟨some b, q, t.nc, t.ns.take q, t.aa, t.an, t.ac, t.av, t.view⟩) ∧ TBox W g t V3 := by
        subst hW
        have hT3 := (hT2.set hWh (by omega) 0 (.slice (some b) q t.nc)).below (Below.refl _ _).drew
        refine ⟨⟨?_, hT3.at_.advs⟩, ?_, hT3⟩
        · have := hT3.at_.nodes.take hq2
          rw [hb] at this
          exact this
        · exact (hB2.set 0 (.slice (some b) q t.nc) (by rw [treeE_len]; omega)).drew
      obtain ⟨hA3, hB3, hT3⟩ := hfacts
      have c0 := hB3.cell 0 _ rfl
      have c1 := hB3.cell 1 _ rfl
      have c2 := hB3.cell 2 _ rfl
      have kc := check_h ⟨some b, q, t.nc, t.ns.take q, t.aa, t.an, t.ac, t.av, t.view⟩ V3 (Lib.hid hA3) (by simp only; omega) (by simp only; omega)
      simp only at kc c0 c1 c2
      rw [hyes.out q rfl (by omega) (by rw [← hln.out]; exact hq2)] at kc
      replace hT3 := Lib.hid hT3
      clear hW hA3 hB3 hT2 k0 k1 k2 h0 f0
      go_wp2_with (first | (go_at_call 18; refine kc.mono ?_; rintro e w4 ⟨rfl, hb4⟩; replace hT3 := Lib.hid (hT3.out.below hb4)) | (go_at_call 16; refine (hw _).mono ?_; rintro e w5 ⟨rfl, hb5⟩))
      go_ret
      exact ⟨rfl, hT3.out.hb.trans (hb5.mono hT3.out.hb.size)⟩
  · have he' : (e == 0) = false := by simpa using he
    by_cases hi0 : i = 0
    · subst hi0
      go_wp2_with (go_at_call 16; refine (hw _).mono ?_; rintro e w5 ⟨rfl, hb5⟩)
      go_ret
      exact ⟨rfl, hT.out.hb.trans (hb5.mono hT.out.hb.size)⟩
    have hi0' : ((i : Int) == 0) = false := by simpa using hi0
    obtain ⟨hil, hagr⟩ : i < t.ns.length ∧ ∀ ms, Agree t.ns ms i → i < ms.length → ms.length ≤ 65536 → checkI ms t.av t.view = (i, e) := ⟨(hno.out t.ns he hi0).1, fun ms h1 h2 h3 => (hno.out ms he hi0).2 h1 h2 h3⟩
    rw [← hln.out] at hil
    replace hagr := Lib.hid hagr
    have hil' : ¬ (t.nn : Int) ≤ (i : Int) := by omega
    obtain ⟨b, hb⟩ : ∃ b, t.na = some b := by
      cases hna : t.na with
      | none => have := (hT.out.at_.nodes.nil hna).1; omega
      | some b => exact ⟨b, rfl⟩
    rw [hb] at k0
    clear hno hyes hinv
    go_upto_region 14 with fail
    generalize hW : World.alloc w2 _ = V2
    obtain ⟨hB2, hT2, hg2⟩ : Box V2 w2.heap.size (treeE t) ∧ TBox W g t V2 ∧ g < w2.heap.size := by
      subst hW
      refine ⟨?_, hT.out.below ((Below.refl _ _).alloc (Nat.le_refl _) _), hT.out.box.lt⟩
      have := Box.new w2 (treeE t) 35
      unfold treeE at this ⊢
      rw [hb] at this ⊢
      exact this
    obtain ⟨h, hh⟩ : ∃ h, h = w2.heap.size := ⟨_, rfl⟩
    rw [← hh] at hB2 hg2 ⊢
    have hWh : W.heap.size ≤ h := by have := hT.out.hb.size; omega
    clear hW hh k0 k1 k2
    obtain ⟨k0, k1, k2⟩ := hT2.cells
    rw [hb] at k0
    have hcap : t.nn ≤ t.nc := hT2.at_.nodes.cap
    have hS1 := hT2.at_.nodes.take (m := i + 1) (by omega)
    rw [hb] at hS1
    have hS2 := hS.out.keep_ hT2.hb
    have own0 := Lib.hid (World.ownsRow_lit (base := V2.heap.size) (e := 49) (size := 44) V2 #[] 0 (Nat.le_refl _) (Nat.zero_le _) (by rfl))
    have b0 := Lib.hid ((Below.refl V2.heap.size V2).alloc (Nat.le_refl _) (.cells #[] 49))
    have hbase : Hid (V2.heap.size ≤ (V2.alloc (.cells #[] 49)).heap.size) := Lib.hid (by simp)
    have hT2lt := hT2.box.lt
    replace hS1 := Lib.hid hS1
    replace hS2 := Lib.hid hS2
    replace hT2 := Lib.hid hT2
    replace hB2 := Lib.hid hB2
    have i1 : (0 : Int) ≤ (i : Int) + 1 := by omega
    have i2 : (i : Int) + 1 ≤ (t.nc : Int) := by omega
    have hil2 : i + 1 ≤ 700 := by omega
    go_upto_region 15 with (first
      | (at_builtin; refine append_row (f := nodeE) (l := []) rfl (.tmp 62) (.tmp 67) 32 49 rfl _ 328 Try.underlying32 infoNode2 rfl (by decide) (by decide) nodeE_len nodeE_one V2.heap.size _ 0 rfl own0.out V2.heap.size (some b) (i + 1) t.nc (t.ns.take (i + 1)) rfl (fun h => by cases h) (Lib.hid hS1.out.len) (hS1.out.at_.keep b0.out) (by omega) hbase.out ?_; intro v1 w3 h3 h4 h5; have hb1 := Lib.hid (b0.out.grown h4 (by simp) (fun k hk => (own0.out.lt k hk).1)); replace h3 := Lib.hid h3; clear h4 h5)
      | (at_builtin; refine append_row (f := nodeE) (l := [] ++ t.ns.take (i + 1)) rfl (.tmp 68) (.tmp 69) 32 49 rfl _ 328 Try.underlying32 infoNode2 rfl (by decide) (by decide) nodeE_len nodeE_one V2.heap.size _ (0 + (i + 1)) rfl h3.out V2.heap.size A n c l rfl hS2.out.nil (Lib.hid hS2.out.len) (hS2.out.at_.keep hb1.out) (by omega) hb1.out.size ?_; intro v2 w4 h6 h7 h8; have hb2 := Lib.hid (hb1.out.grown h7 hb1.out.size (fun k hk => (h3.out.lt k hk).1)); have h6' : w4.ownsRow V2.heap.size 49 44 v2 (i + 1 + n) ((t.ns.take (i + 1) ++ l).flatMap nodeE) := (by simpa [Nat.zero_add] using h6); obtain ⟨A4, c4, rfl, hS4, hN4⟩ := Sl.own h6' nodeE_len (by omega); replace hS4 := Lib.hid hS4; replace hN4 := Lib.hid hN4; clear h6 h6' h7 h8; have p0 := (hB2.out.below hb2.out).cell 0 _ rfl; have p1 := (hB2.out.below hb2.out).free 0 (by rw [treeE_len]; omega); have p2 := (hB2.out.below hb2.out).lt))
    generalize hW : World.setCell w4 _ _ = V5
    have hfacts : TreeAt V5 ⟨A4, i + 1 + n, c4, t.ns.take (i + 1) ++ l, t.aa, t.an, t.ac, t.av, t.view⟩ ∧ Box V5 h (treeE ⟨A4, i + 1 + n, c4, t.ns.take (i + 1) ++ l, t.aa, t.an, t.ac, t.av, t.view⟩) ∧ Below W.heap.size W V5 := by
      subst hW
      have e2 := hB2.out.below hb2.out
      have hT4 := hT2.out.below hb2.out
      have bu : But [h] w4 (w4.setCell ⟨h, 0, none⟩ (.slice A4 (i + 1 + n) c4)) := (But.refl _ _).set h 0 (.inl (by simp)) _
      have hbel : Below W.heap.size W (w4.setCell ⟨h, 0, none⟩ (.slice A4 (i + 1 + n) c4)) := hT4.hb.setCell hWh _
      refine ⟨⟨?_, (ot.out.at_.below hbel).advs⟩, e2.set 0 (.slice A4 (i + 1 + n) c4) (by rw [treeE_len]; omega), hbel⟩
      refine hS4.out.but bu (fun a ha => ?_)
      have h1 := hN4.out a ha
      have h2 := hB2.out.lt
      simp
      omega
    obtain ⟨hA5, hB5, hbel⟩ := hfacts
    have c0 := hB5.cell 0 _ rfl
    have c1 := hB5.cell 1 _ rfl
    have c2 := hB5.cell 2 _ rfl
    have kc := check_h ⟨A4, i + 1 + n, c4, t.ns.take (i + 1) ++ l, t.aa, t.an, t.ac, t.av, t.view⟩ V5 (Lib.hid hA5) (by simp only; omega) (by simp only; omega)
    simp only at kc c0 c1 c2
    have hlt1 : (t.ns.take (i + 1)).length = i + 1 := by rw [List.length_take, ← hln.out]; omega
    have hll : l.length = n := hS.out.len.symm
    rw [hagr.out (t.ns.take (i + 1) ++ l) (fun j hj => by rw [List.getElem?_append_left (show j < (t.ns.take (i + 1)).length by rw [hlt1]; omega), List.getElem?_take, if_pos (by omega)]) (by rw [List.length_append, hlt1, hll]; omega) (by rw [List.length_append, hlt1, hll]; omega)] at kc
    replace hbel := Lib.hid hbel
    clear hW hA5 hB5 hT2 k0 k1 k2 p0 p1 p2 own0 b0 hbase hb1 hb2 h3 hlt1 hll
    go_wp2_with (first | (go_at_call 18; refine kc.mono ?_; rintro e2 w6 ⟨rfl, hb6⟩; replace hbel := Lib.hid (hbel.out.trans (hb6.mono hbel.out.size))) | (go_at_call 16; refine (hw _).mono ?_; rintro e3 w7 ⟨rfl, hb7⟩))
    go_ret
    exact ⟨rfl, hbel.out.trans (hb7.mono hbel.out.size)⟩

set_option maxRecDepth 100000 in
theorem lifted (os : Os) (started : os.Started) (H : Type) (enc : TypeId × Value → H) :
    ReturnsInHanded {} Try.checked os 7 .any (Rows.treeHeadsSpec.pre6 enc Try.prog Try.f7 Rows.treeHeadsRow.domain false) (Rows.treeHeadsSpec.post enc Try.prog Try.f7 false true false false) := by
  refine returnsInHanded_of_change_sized (C := Try.checked) own started (by kernel_rfl) Try.func7
    (ChangeSpec.witness6 (enc := enc) (C := Try.checked) false ⟨#[], #[.agg #[.slice none 0 0, .slice none 0 0, .int .i64 0], .int .u16 0, .slice none 0 0], []⟩ 20 (by kernel_rfl) (by kernel_rfl) (by kernel_rfl) (by kernel_rfl)) ?_
  intro W base args ds gs before hval0 hW hcnd hsz0 _
  have hsz : (DataW.weightsEach Try.prog (Try.f7.params.toList ++ Rows.treeHeadsSpec.plain.varTypes Try.prog) (ds ++ gs)).all (· ≤ reachBytes) = true := hsz0
  clear hsz0
  have hval : ∀ (j : Nat) t v, Try.f7.params[j]? = some t → args[j]? = some v → Value.okWide Try.prog W .any base t v := hval0
  have hW' := hW
  obtain ⟨p, q, hA0, hV, rfl, hfz, hnd⟩ := hW
  have hA : DataW.TrodAll enc Try.prog W 0 (fun _ => true) true Try.f7.params.toList args.toList ds p := hA0
  rw [Try.params7] at hA hval hsz
  obtain ⟨v0, vs0, d0, ds0, p0, q0, hargs, rfl, rfl, h0, r0⟩ := trodAll_cons hA
  obtain ⟨v1, vs1, d1, ds1, p1, q1, rfl, rfl, rfl, h1, r1⟩ := trodAll_cons r0
  obtain ⟨v2, vs2, d2, ds2, p2, q2, rfl, rfl, rfl, h2, r2⟩ := trodAll_cons r1
  obtain ⟨rfl, rfl, rfl⟩ := trodAll_nil r2
  obtain rfl : args = #[v0, v1, v2] := by cases args; simp_all
  obtain ⟨rfl, rfl⟩ := trodVars_none hV
  have hw0 : ∀ n ∈ DataW.weights Try.prog 35 d0, n ≤ reachBytes := fun n hn => by simpa using List.all_eq_true.1 hsz n (DataW.weights_mem_each (j := 0) rfl rfl n hn)
  obtain ⟨x0, rfl, o0⟩ := view_tree hw0 (hval 0 35 v0 rfl rfl) h0
  obtain ⟨a1, rfl, -, -, w1⟩ := open_int Try.underlying50 (hval 1 50 v1 rfl rfl) h1
  have hw2 : ∀ n ∈ DataW.weights Try.prog 32 d2, n ≤ reachBytes := fun n hn => by simpa using List.all_eq_true.1 hsz n (DataW.weights_mem_each (j := 2) rfl rfl n hn)
  obtain ⟨A2, n2, c2, l2, rfl, m2, s2, o2⟩ := view_nodes (hval 2 32 v2 rfl rfl) h2
  refine (walk W x0 o0 a1 w1 A2 n2 c2 l2 m2 s2 o2).mono fun e W' ⟨he, hg⟩ => ?_
  subst he
  exact ⟨_, rfl, law_post laidOut (by kernel_rfl) rfl Try.underlying4 rfl hW' rfl rfl rfl hg⟩

theorem over : Rows.treeHeadsRow.holds Try.pinned (OpenSpec.ofChange Rows.treeHeadsSpec) :=
  OpenClaim.holds_of_wide 7 Try.f7 rfl rfl rfl rfl rfl rfl rfl ⟨rfl, rfl, rfl, rfl, rfl⟩ rfl rfl rfl rfl rfl (by kernel_rfl) Try.func7 (by kernel_rfl)
    (of_decide_eq_true (by kernel_rfl)) (by unfold Func.isWrapper; first | (rw [if_pos (by decide +kernel)]; kernel_rfl) | (rw [if_neg (by decide +kernel)]; exact ⟨rfl, rfl⟩))
    (fun os started H enc _ => lifted os started H enc)

/-- The statement. -/
theorem proved : Rows.TreeHeadsSaid := over
#print axioms proved
end Go.Proofs.Ytcgblbbadbkdgaa.lawTreeHeads
