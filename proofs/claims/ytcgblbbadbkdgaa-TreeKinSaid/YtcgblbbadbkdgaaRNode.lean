/-
  Contract of the document's answer: what is wrong with a node.
-/
import Derived.Test.YtcgblbbadbkdgaaRKin1
import Derived.Test.YtcgblbbadbkdgaaNodeLaw
import Derived.Test.YtcgblbbadbkdgaaRefRight
import Derived.Deep.CutBlock
import Derived.Deep.DeepCutAuto
import Derived.Deep.QuietTactic
import Derived.BigQuiet
namespace Go.Proofs.Ytcgblbbadbkdgaa
open Go.RowKit
set_option linter.unusedVariables false

/-- What the walk keeps: the tree, the node, its style. -/
structure NB (w0 : World) (g nb sb : Nat) (t : TreeV) (x : NodeV) (w : World) : Prop where
  box : TBox w0 g t w
  node : Box w nb (nodeE x)
  sty : Box w sb (styE x.s)
theorem NB.below {w0 w w' : World} {g nb sb : Nat} {t : TreeV} {x : NodeV} (h : NB w0 g nb sb t x w) (hb : Below w.heap.size w w') : NB w0 g nb sb t x w' := ⟨h.box.below hb, h.node.below hb, h.sty.below hb⟩
theorem preB_iff {ns : List NodeV} {i p : Nat} (hi : 0 < i) (hp : p < i) : preB ns i (p : Int) = (decide (p = i - 1) || belB ns (i - 1) p) := by
  unfold preB
  rw [if_neg (by omega), Int.toNat_natCast, show decide ((0 : Int) ≤ (p : Int)) = true by simp, Bool.true_and]
  unfold belB
  obtain ⟨r, e⟩ := chain_head ns (i - 1)
  rw [e, List.contains_cons]
  rfl

theorem firstI_ge (ns : List NodeV) (p i : Nat) : -1 ≤ firstI ns p i := by unfold firstI; split <;> omega
set_option maxRecDepth 100000 in
set_option maxHeartbeats 3200000 in
theorem rnode_h (t : TreeV) (i : Nat) (w : World) (h : Hid (TreeAt w t)) (hi : i < t.nn) (hn : t.nn ≤ 100000) :
    Calls Try.prog 42 #[.agg #[.slice t.na t.nn t.nc, .slice t.aa t.an t.ac, .int .i64 t.view], .int .i64 i] w fun e w' => e = .returned (.int .i64 (nodeI t.ns i)) ∧ Below w.heap.size w w' := by
  obtain ⟨x, hx⟩ : ∃ x, t.ns[i]? = some x := ⟨_, List.getElem?_eq_getElem (by rw [← h.out.nodes.len]; exact hi)⟩
  have hd := Lib.hid (nodeI_at hx)
  replace hx := Lib.hid hx
  obtain ⟨L, hL⟩ : ∃ L, (nodeE x).toArray = L := ⟨_, rfl⟩
  have hL44 : L.size = 44 := by rw [← hL]; rfl
  have hLone : L.all (·.oneCell') = true := by rw [← hL]; exact nodeE_oneA x
  obtain ⟨M, hM⟩ : ∃ M, (styE x.s).toArray = M := ⟨_, rfl⟩
  have hM43 : M.size = 43 := by rw [← hM]; rfl
  have hMone : M.all (·.oneCell') = true := by rw [← hM]; exact styE_one x.s
  have kr : ∀ w : World, Calls Try.prog 13 #[.agg M] w fun e w' => e = .returned (.bool (rightB x.s)) ∧ Below w.heap.size w w' := fun w => by
    have h := rright_any x.s w
    unfold styV at h
    rw [hM] at h
    exact h
  replace hL := Lib.hid hL
  replace hL44 := Lib.hid hL44
  replace hLone := Lib.hid hLone
  replace hM := Lib.hid hM
  replace hM43 := Lib.hid hM43
  replace hMone := Lib.hid hMone
  have hi1 : (0 : Int) ≤ (i : Int) := by omega
  have hi2 : (i : Int) < (t.nn : Int) := by omega
  go_enter Try.func42, Try.ntmps42
  go_upto_region 1 with fail
  generalize hW : World.alloc w _ = V
  have hT := TBox.start h.out hW
  obtain ⟨g, hg⟩ : ∃ g, g = w.heap.size := ⟨_, rfl⟩
  rw [← hg] at hT ⊢
  clear hW hg
  obtain ⟨k0, k1, k2⟩ := hT.cells
  obtain ⟨a, ha, hab, ax⟩ := hT.at_.nodes.at_.atN hx.out
  rw [ha] at k0
  replace ax := Lib.hid ax
  replace hT := Lib.hid hT
  go_upto_region 2 with (first | (refine wpList_load_node (by rfl) _ rfl (a.add (i * 44)) rfl x L hL ax ?_) | (refine wpList_store_newN rfl _ _ rfl _ L rfl rfl rfl hL44.out hLone.out ?_))
  generalize hW : World.alloc V _ = V2
  obtain ⟨hN, hT2⟩ : Box V2 V.heap.size (nodeE x) ∧ TBox w g t V2 := by
    subst hW
    refine ⟨?_, hT.out.below ((Below.refl _ _).alloc (Nat.le_refl _) _)⟩
    have := Box.new V (nodeE x) 49
    rw [hL.out] at this
    exact this
  obtain ⟨nb, hnb⟩ : ∃ nb, nb = V.heap.size := ⟨_, rfl⟩
  rw [← hnb] at hN ⊢
  clear hW hnb k0 k1 k2 hT ax
  have aS := Lib.hid (AtO.of_node hN)
  replace hN := Lib.hid hN
  replace hT2 := Lib.hid hT2
  go_upto_region 3 with (first | (refine wpList_load_styO (by rfl) _ rfl nb 1 rfl x.s M hM aS ?_) | (refine wpList_store_new rfl _ _ rfl _ M rfl rfl rfl hM43.out hMone.out ?_))
  generalize hW : World.alloc V2 _ = V3
  have hB : Hid (NB w g nb V2.heap.size t x V3) := by
    subst hW
    have hb := (Below.refl V2.heap.size V2).alloc (Nat.le_refl _) (.cells M 28)
    refine Lib.hid ⟨hT2.out.below hb, hN.out.below hb, ?_⟩
    have := Box.new V2 (styE x.s) 28
    rw [hM.out] at this
    exact this
  obtain ⟨sb, hsb⟩ : ∃ sb, sb = V2.heap.size := ⟨_, rfl⟩
  rw [← hsb] at hB ⊢
  clear hW hsb hN hT2 aS
  have n0 := hB.out.node.cell 0 _ rfl
  obtain ⟨p, hp⟩ : ∃ p, Hid (x.p = p) := ⟨_, Lib.hid rfl⟩
  rw [hp.out] at n0 hd
  go_upto_region 4 with fail
  have hpre0 := Lib.hid (fun (h : i = 0) => show preB t.ns i p = (p == -1) by unfold preB; rw [if_pos h])
  have hpren := Lib.hid (fun (h : i ≠ 0) (h2 : p < 0) => show preB t.ns i p = false by unfold preB; rw [if_neg h]; simp; omega)
  have hprem := Lib.hid (fun (h : i ≠ 0) (h2 : (i : Int) ≤ p) => show preB t.ns i p = false by
    unfold preB; rw [if_neg h]
    rw [Bool.and_eq_false_iff]
    right
    rw [← Bool.not_eq_true, List.contains_iff_mem]
    intro hm
    have := chain_le t.ns (i - 1) _ hm
    omega)
  go_cut [51] (fun b wx => Hid (NB w g nb sb t x wx) ∧ b = .bool (!(preB t.ns i p)))
  case first =>
    by_cases hi0 : i = 0
    · have hi0' : ((i : Int) == 0) = true := by simpa using hi0
      have hp0 := hpre0.out hi0
      have hi3 : ¬ (0 : Int) < (i : Int) := by omega
      replace hi0 := Lib.hid hi0
      cases hpm : (p == -1)
      · have hpm' : (p != -1) = true := by rw [bne, hpm]; rfl
        have hr := Lib.hid (hp0.trans hpm)
        go_wp2_with fail
        go_meet
        exact ⟨hB, by rw [hr.out]; rfl⟩
      · have hpm' : (p != -1) = false := by rw [bne, hpm]; rfl
        have hr := Lib.hid (hp0.trans hpm)
        go_wp2_with fail
        go_meet
        exact ⟨hB, by rw [hr.out]; rfl⟩
    · have hi0' : ((i : Int) == 0) = false := by simpa using hi0
      have hi3 : (0 : Int) < (i : Int) := by omega
      by_cases hneg : p < 0
      · have hr := Lib.hid (hpren.out hi0 hneg)
        have hpe : (p != (i : Int) - 1) = true := by rw [bne_iff_ne]; omega
        go_wp2_with fail
        go_meet
        exact ⟨hB, by rw [hr.out]; rfl⟩
      by_cases hge : (i : Int) ≤ p
      · have hr := Lib.hid (hprem.out hi0 hge)
        have hpe : (p != (i : Int) - 1) = true := by rw [bne_iff_ne]; omega
        go_wp2_with fail
        go_meet
        exact ⟨hB, by rw [hr.out]; rfl⟩
      obtain ⟨c, rfl⟩ : ∃ c : Nat, p = (c : Int) := ⟨p.toNat, by omega⟩
      have hiff := preB_iff (ns := t.ns) (i := i) (p := c) (by omega) (by omega)
      by_cases hce : c = i - 1
      · have hpe : ((c : Int) != (i : Int) - 1) = false := by rw [bne_eq_false_iff_eq]; omega
        have hr : Hid (preB t.ns i (c : Int) = true) := Lib.hid (by rw [hiff, hce]; simp)
        replace hce := Lib.hid hce
        go_wp2_with fail
        go_meet
        exact ⟨hB, by rw [hr.out]; rfl⟩
      · have hpe : ((c : Int) != (i : Int) - 1) = true := by rw [bne_iff_ne]; omega
        rw [show decide (c = i - 1) = false by simpa using hce, Bool.false_or] at hiff
        obtain ⟨m0, m1, m2⟩ := hB.out.box.cells
        have i4 : (i : Int) - 1 = ((i - 1 : Nat) : Int) := by omega
        have kb := rbel_h t (i - 1) c V3 (Lib.hid hB.out.box.at_) (by omega) hn
        rw [ha, ← i4] at kb
        rw [ha] at m0
        clear i4
        replace hiff := Lib.hid hiff
        generalize belB t.ns (i - 1) c = bb at *
        cases bb
        all_goals
          go_wp2_with (go_at_call 46; refine kb.mono ?_; rintro e w1 ⟨rfl, hb1⟩; have hB1 := Lib.hid (hB.out.below hb1))
          go_meet
          exact ⟨hB1, by rw [hiff.out]; rfl⟩
  case rest =>
    obtain ⟨hB, rfl⟩ := hcut
    clear hpre0 hpren hprem n0
    cases hpb : preB t.ns i p
    case false =>
      have hr := Lib.hid (hd.out.trans (if_pos hpb))
      go_wp2_with fail
      go_ret
      exact ⟨by rw [hr.out]; rfl, hB.out.box.hb⟩
    replace hd := Lib.hid (hd.out.trans (if_neg (by rw [hpb]; simp)))
    have c42 := hB.out.sty.cell 42 _ rfl
    have hal : Hid (aloneI x.s (dep t.ns i) = if 65536 < x.s.un then 7 else if 512 < (dep t.ns i : Int) then 8 else if rightB x.s = true then 0 else 6) := Lib.hid rfl
    by_cases h7 : 65536 < x.s.un
    · have h7' : (65536 : Int) < (x.s.un : Int) := by omega
      have hr := Lib.hid (hal.out.trans (if_pos h7))
      go_wp2_with fail
      go_ret
      exact ⟨by rw [hd.out, hr.out, if_pos (by decide)]; rfl, hB.out.box.hb⟩
    have h7' : ¬ (65536 : Int) < (x.s.un : Int) := by omega
    replace hal := Lib.hid (hal.out.trans (if_neg h7))
    obtain ⟨m0, m1, m2⟩ := hB.out.box.cells
    have kd := rdep_h t i wc (Lib.hid hB.out.box.at_) hi hn
    rw [ha] at kd m0
    obtain ⟨d, hdd⟩ : ∃ d, dep t.ns i = d := ⟨_, rfl⟩
    rw [hdd] at kd hal hd
    by_cases h8 : 512 < d
    · have h8' : (512 : Int) < (d : Int) := by omega
      have hr := Lib.hid (hal.out.trans (if_pos h8'))
      go_wp2_with (go_at_call 45; refine kd.mono ?_; rintro e w1 ⟨rfl, hb1⟩; have hB1 := Lib.hid (hB.out.below hb1))
      go_ret
      exact ⟨by rw [hd.out, hr.out, if_pos (by decide)]; rfl, hB1.out.box.hb⟩
    have h8' : ¬ (512 : Int) < (d : Int) := by omega
    replace hal := Lib.hid (hal.out.trans (if_neg h8'))
    go_upto_region 10 with (go_at_call 45; refine kd.mono ?_; rintro e w1 ⟨rfl, hb1⟩; have hB1 := Lib.hid (hB.out.below hb1))
    have q2 := hB1.out.sty.cell 2 _ rfl
    have q3 := hB1.out.sty.cell 3 _ rfl
    clear kd hb1 hB m0 m1 m2 c42 h8 h7
    go_cut [8] (fun b wx => Hid (NB w g nb sb t x wx) ∧ b = .bool (looseB x.s))
    case first =>
      have hlo : Hid (looseB x.s = (x.s.float != 0 || x.s.clear != 0)) := Lib.hid rfl
      cases hf : (x.s.float != 0)
      all_goals
        go_wp2_with fail
        go_meet
        exact ⟨hB1, by rw [hlo.out, hf]; rfl⟩
    case rest =>
      obtain ⟨hB, rfl⟩ := hcut
      clear hB1 q2 q3
      have q0 := hB.out.sty.cell 0 _ rfl
      have krw := kr wc
      cases hrr : rightB x.s
      case false =>
        rw [hrr] at krw
        rw [if_neg (by rw [hrr]; simp)] at hal
        have aS := Lib.hid (AtS.of hB.out.sty)
        go_wp2_with (first | (refine wpList_load_sty (by rfl) _ rfl sb rfl x.s M hM aS ?_) | (go_at_call 13; refine krw.mono ?_; rintro e w2 ⟨rfl, hb2⟩; have hB2 := Lib.hid (hB.out.below hb2)))
        go_ret
        exact ⟨by rw [hd.out, hal.out, if_pos (by decide)]; rfl, hB2.out.box.hb⟩
      rw [if_pos hrr] at hal
      rw [hrr] at krw
      replace hd := Lib.hid (hd.out.trans (if_neg (by rw [hal.out]; simp)))
      have aS := Lib.hid (AtS.of hB.out.sty)
      by_cases hi0 : i = 0
      · have hi0' : ((i : Int) == 0) = true := by simpa using hi0
        replace hd := Lib.hid (hd.out.trans (if_pos hi0))
        replace hi0 := Lib.hid hi0
        generalize looseB x.s = lo at *
        cases hk1 : (x.s.kind != 1)
        · rw [hk1] at hd
          cases lo
          all_goals
            go_wp2_with (first | (refine wpList_load_sty (by rfl) _ rfl sb rfl x.s M hM aS ?_) | (go_at_call 13; refine krw.mono ?_; rintro e w2 ⟨rfl, hb2⟩; have hB2 := Lib.hid (hB.out.below hb2); have q0' := hB2.out.sty.cell 0 _ rfl))
            go_ret
            exact ⟨by rw [hd.out]; rfl, hB2.out.box.hb⟩
        · rw [hk1] at hd
          go_wp2_with (first | (refine wpList_load_sty (by rfl) _ rfl sb rfl x.s M hM aS ?_) | (go_at_call 13; refine krw.mono ?_; rintro e w2 ⟨rfl, hb2⟩; have hB2 := Lib.hid (hB.out.below hb2); have q0' := hB2.out.sty.cell 0 _ rfl))
          go_ret
          exact ⟨by rw [hd.out]; rfl, hB2.out.box.hb⟩
      have hi0' : ((i : Int) == 0) = false := by simpa using hi0
      replace hd := Lib.hid (hd.out.trans (if_neg hi0))
      have hxp : x.p = p := hp.out
      obtain ⟨c, hc, hci, hcm, -⟩ := preB_pos hx.out hi0 (by rw [hxp]; exact hpb)
      rw [hxp] at hc
      subst hc
      obtain ⟨y, hy⟩ : ∃ y, t.ns[c]? = some y := ⟨_, List.getElem?_eq_getElem (by rw [← h.out.nodes.len]; omega)⟩
      have hky := kindAt_at hy
      have c1 : (0 : Int) ≤ (c : Int) := by omega
      have c2 : (c : Int) < (t.nn : Int) := by omega
      have hkin : Hid (kinB t.ns c i x.s = if y.s.kind = 3 then false else if y.s.kind = 2 then !textK x.s && !looseB x.s else if 0 ≤ firstI t.ns c i then (kindAt t.ns (firstI t.ns c i).toNat == 3) == textK x.s else true) := Lib.hid (by unfold kinB; rw [hky])
      rw [Int.toNat_natCast] at hd
      go_upto_region 15 with (first | (refine wpList_load_sty (by rfl) _ rfl sb rfl x.s M hM aS ?_) | (go_at_call 13; refine krw.mono ?_; rintro e w2 ⟨rfl, hb2⟩; have hB2 := Lib.hid (hB.out.below hb2)))
      clear aS q0 hB hb2 krw
      obtain ⟨m0, m1, m2⟩ := hB2.out.box.cells
      obtain ⟨a2, ha2, -, -, ay⟩ := hB2.out.box.at_.nodes.at_.node (Nat.le_refl _) hy
      rw [ha2] at m0
      have y0 := ay.2 0 _ rfl
      simp only [Nat.add_zero] at y0
      have q0 := hB2.out.sty.cell 0 _ rfl
      have htk : Hid (textK x.s = (x.s.kind == 3)) := Lib.hid rfl
      replace hcm := Lib.hid hcm
      by_cases k3 : y.s.kind = 3
      · have k3' : (y.s.kind == 3) = true := by simpa using k3
        replace hkin := Lib.hid (hkin.out.trans (if_pos k3))
        replace k3 := Lib.hid k3
        go_wp2_with fail
        go_ret
        exact ⟨by rw [hd.out, hkin.out]; rfl, hB2.out.box.hb⟩
      have k3' : (y.s.kind == 3) = false := by simpa using k3
      replace hkin := Lib.hid (hkin.out.trans (if_neg k3))
      by_cases k2 : y.s.kind = 2
      · have k2' : (y.s.kind == 2) = true := by simpa using k2
        replace hkin := Lib.hid (hkin.out.trans (if_pos k2))
        replace k2 := Lib.hid k2
        rw [htk.out] at hkin
        generalize looseB x.s = lo at *
        cases hx3 : (x.s.kind == 3)
        · rw [hx3] at hkin
          cases lo
          all_goals
            go_wp2_with fail
            go_ret
            exact ⟨by rw [hd.out, hkin.out]; rfl, hB2.out.box.hb⟩
        · rw [hx3] at hkin
          go_wp2_with fail
          go_ret
          exact ⟨by rw [hd.out, hkin.out]; rfl, hB2.out.box.hb⟩
      have k2' : (y.s.kind == 2) = false := by simpa using k2
      replace hkin := Lib.hid (hkin.out.trans (if_neg k2))
      have kf := rfirst_h t c i w2 (Lib.hid hB2.out.box.at_) hci hi hn
      rw [ha2] at kf
      have hfl := firstI_lt t.ns c i
      have hfg := firstI_ge t.ns c i
      generalize firstI t.ns c i = f at *
      by_cases hf0 : 0 ≤ f
      · obtain ⟨k, rfl⟩ : ∃ k : Nat, f = (k : Int) := ⟨f.toNat, by omega⟩
        obtain ⟨z, hz⟩ : ∃ z, t.ns[k]? = some z := ⟨_, List.getElem?_eq_getElem (by rw [← h.out.nodes.len]; omega)⟩
        replace hkin := Lib.hid (hkin.out.trans (if_pos hf0))
        rw [Int.toNat_natCast, kindAt_at hz, htk.out] at hkin
        have z1 : (0 : Int) ≤ (k : Int) := by omega
        have z2 : (k : Int) < (t.nn : Int) := by omega
        replace hz := Lib.hid hz
        go_upto_region 17 with (go_at_call 83; refine kf.mono ?_; rintro e w3 ⟨rfl, hb3⟩; have hB3 := Lib.hid (hB2.out.below hb3))
        clear m0 m1 m2 y0 q0 ay kf
        obtain ⟨m0, m1, m2⟩ := hB3.out.box.cells
        obtain ⟨a3, ha3, -, -, az⟩ := hB3.out.box.at_.nodes.at_.node (Nat.le_refl _) hz.out
        rw [ha3] at m0
        have z0 := az.2 0 _ rfl
        simp only [Nat.add_zero] at z0
        have q0 := hB3.out.sty.cell 0 _ rfl
        have hbb := bl_drewN (Below.refl w3.heap.size w3)
        clear az
        generalize x.s.kind = kx at *
        generalize z.s.kind = kz at *
        go_cut [111] (fun b wx => Hid (NB w g nb sb t x wx) ∧ b = .bool (!((kz == 3) == (kx == 3))))
        case first =>
          go_quiet (fail)
          have hB4 := Lib.hid (hB3.out.below (hbb nq))
          go_wp2_with fail
          go_meet
          exact ⟨hB4, rfl⟩
        case rest =>
          obtain ⟨hB5, rfl⟩ := hcut
          generalize ((kz == 3) == (kx == 3)) = b at *
          cases b
          all_goals
            go_wp2_with fail
            go_ret
            exact ⟨by rw [hd.out, hkin.out]; rfl, hB5.out.box.hb⟩
      · have hfm : f = -1 := by omega
        subst hfm
        replace hkin := Lib.hid (hkin.out.trans (if_neg (by omega)))
        go_upto_region 17 with (go_at_call 83; refine kf.mono ?_; rintro e w3 ⟨rfl, hb3⟩; have hB3 := Lib.hid (hB2.out.below hb3))
        have hbb := bl_drewN (Below.refl w3.heap.size w3)
        go_cut [111] (fun b wx => Hid (NB w g nb sb t x wx) ∧ b = .bool false)
        case first =>
          go_quiet (fail)
          have hB4 := Lib.hid (hB3.out.below (hbb nq))
          go_wp2_with fail
          go_meet
          exact ⟨hB4, rfl⟩
        case rest =>
          obtain ⟨hB5, rfl⟩ := hcut
          go_wp2_with fail
          go_ret
          exact ⟨by rw [hd.out, hkin.out]; rfl, hB5.out.box.hb⟩
end Go.Proofs.Ytcgblbbadbkdgaa
