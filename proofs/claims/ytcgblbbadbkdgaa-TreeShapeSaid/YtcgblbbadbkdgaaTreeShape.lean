/-
  Of a tree that Check takes the nodes below a node are those behind it up to its Last, child behind child: for every input, no conditions.
-/
import Derived.Test.YtcgblbbadbkdgaaWorks5
import Derived.Test.YtcgblbbadbkdgaaLawCore
import Derived.Test.YtcgblbbadbkdgaaVast5
import Derived.Test.YtcgblbbadbkdgaaCopy5
import Derived.Test.YtcgblbbadbkdgaaShape
import Derived.Deep.DeepCutAuto
import Derived.Deep.RegionHeld3
import Derived.SizedLaws
import Derived.ProofKit
import Derived.OpenShut
import Derived.BigGuard
import Derived.Deep.QuietTactic
import Derived.BigQuiet
namespace Go.Proofs.Ytcgblbbadbkdgaa.lawTreeShape
open Go.ChangeShapes Go.WideShapes Go.ChangeAt Go.RowKit Go.Proofs.Ytcgblbbadbkdgaa
set_option linter.unusedVariables false

theorem own : ownKnob Try.prog.godebug = none := by kernel_rfl

/-- What the law's loops keep: the tree, its children, last ones, depths. -/
structure RS (W : World) (g : Nat) (t : TreeV) (q : Nat) (vs : List Value) (ql qd : Nat) (w : World) : Prop where
  box : TBox W g t w
  kids : Box w q vs
  rows : ∀ i, i < t.nn → ∃ A c, vs[i]? = some (.slice A (kidsN t.ns i t.nn).length c) ∧ Sl intE w A (kidsN t.ns i t.nn).length c (kidsN t.ns i t.nn)
  last : IBox w ql ((List.range t.nn).map fun i => (lastN t.ns i t.nn : Int))
  deps : IBox w qd ((List.range t.nn).map fun i => (dep t.ns i : Int))
theorem RS.below {W w w' : World} {g q ql qd : Nat} {t : TreeV} {vs : List Value} (h : RS W g t q vs ql qd w) (hb : Below w.heap.size w w') : RS W g t q vs ql qd w' :=
  ⟨h.box.below hb, h.kids.below hb, fun i hi => by obtain ⟨A, c, e, hS⟩ := h.rows i hi; exact ⟨A, c, e, hS.below hb⟩, h.last.below hb, h.deps.below hb⟩
theorem RS.l {W w : World} {g q ql qd : Nat} {t : TreeV} {vs : List Value} (h : RS W g t q vs ql qd w) {i : Nat} (hi : i < t.nn) : w.cell? ⟨ql, i, none⟩ = some (.int .i64 (lastN t.ns i t.nn : Int)) := h.last.at_ (by simp [hi])
theorem RS.d {W w : World} {g q ql qd : Nat} {t : TreeV} {vs : List Value} (h : RS W g t q vs ql qd w) {i : Nat} (hi : i < t.nn) : w.cell? ⟨qd, i, none⟩ = some (.int .i64 (dep t.ns i : Int)) := h.deps.at_ (by simp [hi])

set_option maxRecDepth 100000 in
set_option maxHeartbeats 3200000 in
theorem walk (W : World) (t : TreeV) (ot : TreeOk W t) :
    Calls Try.prog 6 #[.agg #[.slice t.na t.nn t.nc, .slice t.aa t.an t.ac, .int .i64 t.view]] W fun e w' => e = .returned (.bool true) ∧ Below W.heap.size W w' := by
  have hw := fun w => works5_any w
  have hln := Lib.hid ot.at_.nodes.len
  go_enter Try.func6, Try.ntmps6
  go_upto_region 1 with fail
  generalize hW : World.alloc W _ = V
  have hT := TBox.start ot.at_ hW
  obtain ⟨g, hg⟩ : ∃ g, g = W.heap.size := ⟨_, rfl⟩
  rw [← hg] at hT ⊢
  clear hW hg
  obtain ⟨k0, k1, k2⟩ := hT.cells
  have ks := small_h t V (Lib.hid (ot.below hT.hb))
  replace hT := Lib.hid hT
  replace ot := Lib.hid ot
  cases hsm : smallB t
  case false =>
    rw [hsm] at ks
    go_wp2_with (first | (go_at_call 15; refine ks.mono ?_; rintro e w1 ⟨rfl, hb1⟩; have hT1 := Lib.hid (hT.out.below hb1)) | (go_at_call 16; refine (hw _).mono ?_; rintro e w2 ⟨rfl, hb2⟩))
    go_ret
    exact ⟨rfl, hT1.out.hb.trans (hb2.mono hT1.out.hb.size)⟩
  rw [hsm] at ks
  have sm := small_of hsm hln.out
  have hnn := sm.nn
  have han := sm.an
  have hun := Lib.hid sm.un
  clear sm hsm
  go_upto_region 3 with (go_at_call 15; refine ks.mono ?_; rintro e w1 ⟨rfl, hb1⟩)
  replace hT := Lib.hid (hT.out.below hb1)
  clear ks hb1 k0 k1 k2
  obtain ⟨k0, k1, k2⟩ := hT.out.cells
  have kc := copy_h t w1 (Lib.hid (ot.out.below hT.out.hb)) (by omega) (by omega) (Lib.hid (fun x hx => by have := hun.out x hx; omega))
  have hall := Lib.hid (fun h => check_all (ns := t.ns) (av := t.av) (view := t.view) h)
  have kch := fun A c B b ms (w' : World) (hA : TreeAt w' ⟨A, t.nn, c, ms, B, t.an, b, t.av, t.view⟩) (hs : t.ns.map strip = ms.map strip) => (by
    have k := check_h ⟨A, t.nn, c, ms, B, t.an, b, t.av, t.view⟩ w' (Lib.hid hA) (by simp only; omega) (by simp only; omega)
    simp only at k
    rw [← check_alike t.av t.view hs] at k
    exact k : Calls Try.prog 18 #[.agg #[.slice A t.nn c, .slice B t.an b, .int .i64 t.view]] w' fun e w2 => e = .returned (.tuple #[.int .i64 (checkI t.ns t.av t.view).1, .int .i64 (checkI t.ns t.av t.view).2]) ∧ Below w'.heap.size w' w2)
  obtain ⟨⟨ci, ce⟩, hie⟩ : ∃ p, checkI t.ns t.av t.view = p := ⟨_, rfl⟩
  rw [hie] at kch hall
  go_upto_region 4 with (first | (go_at_call 17; refine kc.mono ?_; rintro e w2 ⟨A, c, B, b, ms, rfl, hA2, hO2, hb2⟩; have kx := kch A c B b ms w2 hA2 hO2.strips; replace hT := Lib.hid (hT.out.below hb2)) | (go_at_call 18; refine kx.mono ?_; rintro e w3 ⟨rfl, hb3⟩))
  replace hT := Lib.hid (hT.out.below hb3)
  clear kx hb3 hb2 hO2 hA2 kch kc k0 k1 k2 hie
  by_cases hce : ce = 0
  case neg =>
    have hce' : (ce != 0) = true := by simpa using hce
    go_wp2_with (go_at_call 16; refine (hw _).mono ?_; rintro e3 w7 ⟨rfl, hb7⟩)
    go_ret
    exact ⟨rfl, hT.out.hb.trans (hb7.mono hT.out.hb.size)⟩
  subst hce
  have hok := (hall.out rfl).2.1
  have hpos : 0 < t.nn := by rw [hln.out]; exact whole_pos (hall.out rfl).1
  have hpre := pre_of hok
  replace hok := Lib.hid hok
  replace hpre := Lib.hid hpre
  obtain ⟨k0, k1, k2⟩ := hT.out.cells
  have c1 := kids_h t w3 (Lib.hid hT.out.at_) (by omega)
  go_upto_region 7 with (go_at_call 21; refine c1.mono ?_; rintro e w4 ⟨q, vs, rfl, hq1, hq2, hq3, -, hb4⟩)
  replace hT := Lib.hid (hT.out.below hb4)
  replace hq1 := Lib.hid hq1
  replace hq3 := Lib.hid hq3
  clear c1 hb4 k0 k1 k2 hq2
  obtain ⟨k0, k1, k2⟩ := hT.out.cells
  have c1 := last_h t w4 (Lib.hid hT.out.at_) (by omega)
  go_upto_region 8 with (go_at_call 26; refine c1.mono ?_; rintro e w5 ⟨ql, rfl, hl1, -, hb5⟩)
  replace hT := Lib.hid (hT.out.below hb5)
  replace hl1 := Lib.hid hl1
  clear c1 k0 k1 k2
  obtain ⟨k0, k1, k2⟩ := hT.out.cells
  have c1 := depths_h t w5 (Lib.hid hT.out.at_) (by omega)
  replace hb5 := Lib.hid hb5
  go_upto_region 9 with (go_at_call 24; refine c1.mono ?_; rintro e w6 ⟨qd, rfl, hd1, -, hb6⟩)
  have hRS : RS W g t q vs ql qd w6 := by
    have hb := hb5.out.trans (hb6.mono hb5.out.size)
    exact ⟨hT.out.below hb6, hq1.out.below hb, fun i hi => by obtain ⟨A, c, e, hS⟩ := hq3.out i hi; exact ⟨A, c, e, hS.below hb⟩, hl1.out.below hb6, hd1⟩
  clear c1 hb6 hb5 k0 k1 k2 hq1 hq3 hl1 hd1 hT
  obtain ⟨k0, k1, k2⟩ := hRS.box.cells
  have l0 : w6.cell? ⟨ql, 0, none⟩ = some (.int .i64 ((t.nn : Int) - 1)) := by
    have h := hRS.l hpos
    have e := root_last hpre.out (by rw [← hln.out]; exact hpos)
    rw [← hln.out] at e
    rw [e] at h
    rw [h]
    congr 2
    omega
  have d0 : w6.cell? ⟨qd, 0, none⟩ = some (.int .i64 1) := by
    have h := hRS.d hpos
    rw [dep_none (parI_zero _)] at h
    exact h
  have hp1 : ((t.nn : Int) == 0) = false := by rw [beq_eq_false_iff_ne]; omega
  have hp2 : (0 : Int) < (t.nn : Int) := by omega
  have hbq := bl_drewN (Below.refl w6.heap.size w6)
  replace hRS := Lib.hid hRS
  go_quiet (fail)
  replace hRS := Lib.hid (hRS.out.below (hbq nq))
  clear hbq l0 d0 k0 k1 k2
  go_wp2_with fail
  go_loopw [8] (fun i wr => ∃ k : Nat, k ≤ t.nn ∧ i = .int .i64 k ∧ Hid (RS W g t q vs ql qd wr)) (fun i _ => t.nn - (intOf i).toNat)
  case atStart => exact ⟨0, Nat.zero_le _, rfl, hRS⟩
  case round =>
    clear hRS
    obtain ⟨i, hin, rfl, hRS⟩ := hrel
    by_cases hlt : i < t.nn
    case neg =>
      have hlt' : ¬ (i : Int) < (t.nn : Int) := by omega
      go_wp2_with (go_at_call 16; refine (hw _).mono ?_; rintro e3 w7 ⟨rfl, hb7⟩)
      go_ret
      exact ⟨rfl, hRS.out.box.hb.trans (hb7.mono hRS.out.box.hb.size)⟩
    have hlt' : (i : Int) < (t.nn : Int) := by omega
    have i1 : (0 : Int) ≤ (i : Int) := by omega
    have hil : i < t.ns.length := by rw [← hln.out]; exact hlt
    have hkl : Hid (kidsN t.ns i t.nn = (kidL t.ns i).map (fun (k : Nat) => (k : Int))) := Lib.hid (by rw [hln.out]; exact kidsN_eq t.ns i)
    obtain ⟨L, hL⟩ : ∃ L, Hid ((kidL t.ns i).length = L) := ⟨_, Lib.hid rfl⟩
    have hkll : Hid ((kidsN t.ns i t.nn).length = L) := Lib.hid (by rw [hkl.out, List.length_map, hL.out])
    have hL0 : L ≤ 700 := by have := kids_len t.ns i t.nn; have := hkll.out; omega
    replace hil := Lib.hid hil
    go_wp2_with fail
    go_loopw [9, 10] (fun nx m wr => ∃ k : Nat, k ≤ L ∧ m = .int .i64 k ∧ nx = .int .i64 (nextK t.ns i k : Int) ∧ Hid (RS W g t q vs ql qd wr)) (fun _ m _ => L - (intOf m).toNat)
    case atStart => exact ⟨0, Nat.zero_le _, rfl, congrArg (Value.int .i64) (by rw [nextK_zero]; omega), hRS⟩
    case round =>
      clear hRS
      obtain ⟨k, hk, rfl, rfl, hRS⟩ := hrel
      obtain ⟨k0, k1, k2⟩ := hRS.out.box.cells
      obtain ⟨A, c, ev, hS⟩ := hRS.out.rows i hlt
      rw [hkll.out] at ev hS
      have q0 := hRS.out.kids.cell i _ ev
      have li := hRS.out.l hlt
      have di := hRS.out.d hlt
      by_cases hlt2 : k < L
      · have hlt3 : (k : Int) < (L : Int) := by omega
        have k3 : (0 : Int) ≤ (k : Int) := by omega
        obtain ⟨d, hd⟩ : ∃ d, (kidL t.ns i)[k]? = some d := ⟨_, List.getElem?_eq_getElem (by rw [hL.out]; exact hlt2)⟩
        obtain ⟨hdl, hdp⟩ := kidL_mem.mp (List.mem_of_getElem? hd)
        have hdn := Lib.hid (kid_at hpre.out hil.out hd)
        have hnx := Lib.hid (nextK_succ hd)
        have hdd := dep_some hdp
        have hlg := last_ge (ns := t.ns) hdl
        have hll := last_lt (ns := t.ns) hdl
        rw [← hln.out] at hdl hlg hll hnx
        have hdl2 := dep_le t.ns i
        obtain ⟨a, ha, hab, ca⟩ := hS.at_.int (i := k) (x := (d : Int)) (by rw [hkl.out, List.getElem?_map, hd]; rfl)
        rw [ha] at q0
        obtain ⟨x, hx⟩ : ∃ x, t.ns[d]? = some x := ⟨_, List.getElem?_eq_getElem (by rw [← hln.out]; exact hdl)⟩
        have hxp : x.p = (i : Int) := by
          have h := hdp
          rw [parI_at hx] at h
          split at h
          · exact h
          · omega
        obtain ⟨a2, ha2, hab2, cx, -⟩ := hRS.out.box.at_.nodes.at_.node (Nat.le_refl _) hx
        rw [ha2] at k0
        rw [hxp] at cx
        replace ha2 := Lib.hid ha2
        replace ha := Lib.hid ha
        replace hdd := Lib.hid hdd
        have ld := hRS.out.l hdl
        have dd := hRS.out.d hdl
        rw [hdd.out] at dd
        have d1 : (0 : Int) ≤ (d : Int) := by omega
        have d2 : (d : Int) < (t.nn : Int) := by omega
        have d3 : ¬ (t.nn : Int) ≤ (d : Int) := by omega
        rw [← hdn.out]
        obtain ⟨ll, hll_⟩ : ∃ ll, Hid (lastN t.ns d t.nn = ll) := ⟨_, Lib.hid rfl⟩
        rw [hll_.out] at ld hlg hll
        generalize dep t.ns i = di_ at *
        have d4 : ¬ (ll : Int) < (d : Int) := by omega
        have dd' : wr.cell? ⟨qd, d, none⟩ = some (.int .i64 ((di_ : Int) + 1)) := by rw [dd]; rfl
        clear dd hdp hx hxp hd ev hS li
        go_upto_region 19 with fail
        have hbq := bl_drewN (Below.refl wr.heap.size wr)
        go_cut [137] (fun b wx => b = .bool false ∧ Hid (RS W g t q vs ql qd wx))
        case first =>
          go_quiet (fail)
          replace hRS := Lib.hid (hRS.out.below (hbq nq))
          go_wp2_with fail
          go_meet
          exact ⟨rfl, hRS⟩
        case rest =>
          obtain ⟨rfl, hRS2⟩ := hcut
          have ld := hRS2.out.l hdl
          rw [hll_.out] at ld
          go_wp2_with fail
          go_roundw
          case rel => exact ⟨k + 1, by omega, by go_num, congrArg (Value.int .i64) (by rw [hnx.out, hll_.out]; omega), hRS2⟩
          case measure => simp [intOf]; omega
      · have e : k = L := by omega
        have hlt3 : ¬ (k : Int) < (L : Int) := by omega
        have hend := kid_end hpre.out hil.out
        rw [hL.out, ← hln.out, ← e] at hend
        have hli : (lastN t.ns i t.nn : Int) = (nextK t.ns i k : Int) - 1 := by omega
        rw [hli] at li
        obtain ⟨x, hx⟩ : ∃ x, t.ns[i]? = some x := ⟨_, List.getElem?_eq_getElem hil.out⟩
        obtain ⟨a2, ha2, hab2, -, ax⟩ := hRS.out.box.at_.nodes.at_.node (Nat.le_refl _) hx
        rw [ha2] at k0
        replace ha2 := Lib.hid ha2
        have c0 := ax.2 0 _ rfl
        simp only [Nat.add_zero] at c0
        have htx : x.s.kind = 3 → L = 0 := fun h3 => by
          cases hkk : kidL t.ns i with
          | nil => rw [← hL.out, hkk]; rfl
          | cons d r =>
            exact absurd (by rw [kindAt_at hx]; exact h3) (kid_text (ns := t.ns) hok.out (i := i) (c := d) (by rw [hkk]; exact List.mem_cons_self))
        have hne : ((nextK t.ns i k : Int) - 1 != (nextK t.ns i k : Int) - 1) = false := by simp
        have hlast := last_lt (ns := t.ns) hil.out
        rw [← hln.out] at hlast
        have hb1 : 1 ≤ nextK t.ns i k := by omega
        have hb2 : nextK t.ns i k ≤ 701 := by omega
        generalize nextK t.ns i k = nx at *
        clear hlast hend hli hx ax ev hS di hne
        replace e := Lib.hid e
        have hRS' := Lib.hid hRS.out
        by_cases h3 : x.s.kind = 3
        · have h3' : (x.s.kind == 3) = true := by simpa using h3
          have hL00 : L = 0 := htx h3
          have hL01 : ¬ (0 : Int) < (L : Int) := by omega
          replace hL00 := Lib.hid hL00
          replace h3 := Lib.hid h3
          clear htx
          go_wp2_with fail
          go_roundw
          case rel => exact ⟨i + 1, by omega, by go_num, hRS'⟩
          case measure => simp [intOf]; omega
        · have h3' : (x.s.kind == 3) = false := by simpa using h3
          clear htx
          go_wp2_with fail
          go_roundw
          case rel => exact ⟨i + 1, by omega, by go_num, hRS'⟩
          case measure => simp [intOf]; omega

set_option maxRecDepth 100000 in
theorem lifted (os : Os) (started : os.Started) (H : Type) (enc : TypeId × Value → H) :
    ReturnsInHanded {} Try.checked os 6 .any (Rows.treeShapeSpec.pre6 enc Try.prog Try.f6 Rows.treeShapeRow.domain false) (Rows.treeShapeSpec.post enc Try.prog Try.f6 false true false false) := by
  refine returnsInHanded_of_change_sized (C := Try.checked) own started (by kernel_rfl) Try.func6
    (ChangeSpec.witness6 (enc := enc) (C := Try.checked) false ⟨#[], #[.agg #[.slice none 0 0, .slice none 0 0, .int .i64 0]], []⟩ 20 (by kernel_rfl) (by kernel_rfl) (by kernel_rfl) (by kernel_rfl)) ?_
  intro W base args ds gs before hval0 hW hcnd hsz0 _
  have hsz : (DataW.weightsEach Try.prog (Try.f6.params.toList ++ Rows.treeShapeSpec.plain.varTypes Try.prog) (ds ++ gs)).all (· ≤ reachBytes) = true := hsz0
  clear hsz0
  have hval : ∀ (j : Nat) t v, Try.f6.params[j]? = some t → args[j]? = some v → Value.okWide Try.prog W .any base t v := hval0
  have hW' := hW
  obtain ⟨p, q, hA0, hV, rfl, hfz, hnd⟩ := hW
  have hA : DataW.TrodAll enc Try.prog W 0 (fun _ => true) true Try.f6.params.toList args.toList ds p := hA0
  rw [Try.params6] at hA hval hsz
  obtain ⟨v0, vs0, d0, ds0, p0, q0, hargs, rfl, rfl, h0, r0⟩ := trodAll_cons hA
  obtain ⟨rfl, rfl, rfl⟩ := trodAll_nil r0
  obtain rfl : args = #[v0] := by cases args; simp_all
  obtain ⟨rfl, rfl⟩ := trodVars_none hV
  have hw0 : ∀ n ∈ DataW.weights Try.prog 35 d0, n ≤ reachBytes := fun n hn => by simpa using List.all_eq_true.1 hsz n (DataW.weights_mem_each (j := 0) rfl rfl n hn)
  obtain ⟨x0, rfl, o0⟩ := view_tree hw0 (hval 0 35 v0 rfl rfl) h0
  refine (walk W x0 o0).mono fun e W' ⟨he, hg⟩ => ?_
  subst he
  exact ⟨_, rfl, law_post laidOut (by kernel_rfl) rfl Try.underlying4 rfl hW' rfl rfl rfl hg⟩

theorem over : Rows.treeShapeRow.holds Try.pinned (OpenSpec.ofChange Rows.treeShapeSpec) :=
  OpenClaim.holds_of_wide 6 Try.f6 rfl rfl rfl rfl rfl rfl rfl ⟨rfl, rfl, rfl, rfl, rfl⟩ rfl rfl rfl rfl rfl (by kernel_rfl) Try.func6 (by kernel_rfl)
    (of_decide_eq_true (by kernel_rfl)) (by unfold Func.isWrapper; first | (rw [if_pos (by decide +kernel)]; kernel_rfl) | (rw [if_neg (by decide +kernel)]; exact ⟨rfl, rfl⟩))
    (fun os started H enc _ => lifted os started H enc)

/-- The statement. -/
theorem proved : Rows.TreeShapeSaid := over
#print axioms proved
end Go.Proofs.Ytcgblbbadbkdgaa.lawTreeShape
