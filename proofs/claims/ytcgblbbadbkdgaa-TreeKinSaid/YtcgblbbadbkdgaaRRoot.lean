/-
  Contract of the document's answer: Root.
-/
import Derived.Test.YtcgblbbadbkdgaaRKin1
import Derived.Test.YtcgblbbadbkdgaaRoot
import Derived.Deep.DeepCutAuto
namespace Go.Proofs.Ytcgblbbadbkdgaa
open Go.RowKit
set_option linter.unusedVariables false

set_option maxRecDepth 100000 in
set_option maxHeartbeats 3200000 in
theorem rroot_h (t : TreeV) (i : Int) (w : World) (h : Hid (TreeAt w t)) (hn : t.nn ≤ 100000) :
    Calls Try.prog 29 #[.agg #[.slice t.na t.nn t.nc, .slice t.aa t.an t.ac, .int .i64 t.view], .int .i64 i] w fun e w' => e = .returned (.bool (rootI t.ns t.nn i)) ∧ Below w.heap.size w w' := by
  have hd : Hid (rootI t.ns t.nn i = if 0 ≤ i ∧ i < (t.nn : Int) then rootB t.ns i.toNat else false) := Lib.hid rfl
  have kp := fun i w h hi => rpar_h t i w h hi hn
  go_enter Try.func29, Try.ntmps29
  go_upto_region 1 with fail
  generalize hW : World.alloc w _ = V
  have hT := TBox.start h.out hW
  obtain ⟨g, hg⟩ : ∃ g, g = w.heap.size := ⟨_, rfl⟩
  rw [← hg] at hT ⊢
  clear hW hg
  obtain ⟨k0, k1, k2⟩ := hT.cells
  by_cases h0 : i < 0
  · replace hT := Lib.hid hT
    go_wp2_with fail
    go_ret
    exact ⟨by rw [hd.out, if_neg (by omega)]; rfl, hT.out.hb⟩
  by_cases h1 : (t.nn : Int) ≤ i
  · replace hT := Lib.hid hT
    go_wp2_with fail
    go_ret
    exact ⟨by rw [hd.out, if_neg (by omega)]; rfl, hT.out.hb⟩
  replace hd := Lib.hid (hd.out.trans (if_pos ⟨by omega, by omega⟩))
  obtain ⟨j, rfl⟩ : ∃ j : Nat, i = (j : Int) := ⟨i.toNat, by omega⟩
  rw [Int.toNat_natCast] at hd
  have hlt : j < t.nn := by omega
  obtain ⟨x, hx⟩ : ∃ x, t.ns[j]? = some x := ⟨_, List.getElem?_eq_getElem (by rw [← h.out.nodes.len]; exact hlt)⟩
  obtain ⟨a, ha, hab, cx, ax⟩ := hT.at_.nodes.at_.node (Nat.le_refl _) hx
  rw [ha] at k0
  replace hd := Lib.hid (hd.out.trans (rootB_at hx))
  have j1 : (0 : Int) ≤ (j : Int) := by omega
  have j2 : (j : Int) < (t.nn : Int) := by omega
  have c0 := ax.2 0 _ rfl
  simp only [Nat.add_zero] at c0
  replace hT := Lib.hid hT
  have htk : Hid (textK x.s = (x.s.kind == 3)) := Lib.hid rfl
  rw [htk.out] at hd
  clear cx h0 h1
  cases htx : (x.s.kind == 3)
  case true =>
    rw [htx] at hd
    go_wp2_with fail
    go_ret
    exact ⟨by rw [hd.out]; rfl, hT.out.hb⟩
  rw [htx] at hd
  obtain ⟨M, hM⟩ : ∃ M, (styE x.s).toArray = M := ⟨_, rfl⟩
  have hM43 : M.size = 43 := by rw [← hM]; rfl
  have hMone : M.all (·.oneCell') = true := by rw [← hM]; exact styE_one x.s
  replace hM := Lib.hid hM
  replace hM43 := Lib.hid hM43
  replace hMone := Lib.hid hMone
  have aS := Lib.hid ax
  clear ax
  go_upto_region 4 with (first | (refine wpList_load_styO (by rfl) _ rfl (a.add (j * 44)).block ((a.add (j * 44)).off + 1) rfl x.s M hM aS ?_) | (refine wpList_store_new rfl _ _ rfl _ M rfl rfl rfl hM43.out hMone.out ?_))
  generalize hW : World.alloc V _ = V2
  obtain ⟨hB, hT2⟩ : Box V2 V.heap.size (styE x.s) ∧ TBox w g t V2 := by
    subst hW
    refine ⟨?_, hT.out.below ((Below.refl _ _).alloc (Nat.le_refl _) _)⟩
    have := Box.new V (styE x.s) 28
    rw [hM.out] at this
    exact this
  obtain ⟨sb, hsb⟩ : ∃ sb, sb = V.heap.size := ⟨_, rfl⟩
  rw [← hsb] at hB ⊢
  clear hW hsb k0 k1 k2 c0 aS hT
  obtain ⟨k0, k1, k2⟩ := hT2.cells
  rw [ha] at k0
  have kk := kp j V2 (Lib.hid hT2.at_) hlt
  rw [ha] at kk
  replace hB := Lib.hid hB
  replace hT2 := Lib.hid hT2
  go_upto_region 5 with (go_at_call 44; refine kk.mono ?_; rintro e w1 ⟨rfl, hb1⟩)
  have hT3 := hT2.out.below hb1
  have hB3 := hB.out.below hb1
  have c0 := hB3.cell 0 _ rfl
  have c1 := hB3.cell 1 _ rfl
  have c2 := hB3.cell 2 _ rfl
  obtain ⟨m0, m1, m2⟩ := hT3.cells
  rw [ha] at m0
  clear k0 k1 k2 kk hb1 hB
  by_cases hj0 : j = 0
  · have hj0' : ((j : Int) == 0) = true := by simpa using hj0
    replace hj0 := Lib.hid hj0
    replace hT3 := Lib.hid hT3
    go_wp2_with fail
    go_ret
    exact ⟨by rw [hd.out, hj0.out]; rfl, hT3.out.hb⟩
  have hj0' : ((j : Int) == 0) = false := by simpa using hj0
  have hj0b : (j == 0) = false := by simpa using hj0
  rw [hj0b] at hd
  replace hj0 := Lib.hid hj0
  cases hk2 : (x.s.kind == 2)
  case true =>
    replace hT3 := Lib.hid hT3
    go_wp2_with fail
    go_ret
    exact ⟨by rw [hd.out, hk2]; rfl, hT3.out.hb⟩
  cases hfl : x.s.flow
  case true =>
    rw [hfl] at c1
    replace hT3 := Lib.hid hT3
    go_wp2_with fail
    go_ret
    exact ⟨by rw [hd.out, hk2, hfl]; rfl, hT3.out.hb⟩
  rw [hfl] at c1
  cases hft : (x.s.float != 0)
  case true =>
    replace hT3 := Lib.hid hT3
    go_wp2_with fail
    go_ret
    exact ⟨by rw [hd.out, hk2, hfl, hft]; rfl, hT3.out.hb⟩
  rw [hk2, hfl, hft] at hd
  rcases parI_cases t.ns j with hp | ⟨p, hp, hpk⟩
  · rw [hp] at hd ⊢
    replace hT3 := Lib.hid hT3
    go_wp2_with fail
    go_ret
    exact ⟨by first | (rw [hd.out]; done) | (rw [hd.out]; rfl), hT3.out.hb⟩
  · rw [hp] at hd ⊢
    obtain ⟨y, hy⟩ : ∃ y, t.ns[p]? = some y := ⟨_, List.getElem?_eq_getElem (by rw [← h.out.nodes.len]; omega)⟩
    have hky := Lib.hid (kindAt_at hy)
    obtain ⟨a2, ha2, -, cy, ay⟩ := hT3.at_.nodes.at_.node (Nat.le_refl _) hy
    obtain rfl : a = a2 := Option.some.inj (ha.symm.trans ha2)
    have d0 := ay.2 0 _ rfl
    simp only [Nat.add_zero] at d0
    have p1 : (0 : Int) ≤ (p : Int) := by omega
    have p2 : (p : Int) < (t.nn : Int) := by omega
    replace hT3 := Lib.hid hT3
    have hpn : Hid (((p : Int) != -1) = true) := Lib.hid (by first | (simp; done) | (simp; omega))
    clear ay cy hy ha2 ha
    go_wp2_with fail
    go_ret
    exact ⟨by first | (rw [hd.out, Int.toNat_natCast, hky.out, hpn.out]; done) | (rw [hd.out, Int.toNat_natCast, hky.out, hpn.out]; rfl), hT3.out.hb⟩
end Go.Proofs.Ytcgblbbadbkdgaa
