/-
  Contract of package tree: Root.
-/
import Derived.Test.YtcgblbbadbkdgaaCheck
namespace Go.Proofs.Ytcgblbbadbkdgaa
open Go.RowKit
set_option linter.unusedVariables false

def rootI (ns : List NodeV) (n : Nat) (i : Int) : Bool := if 0 ≤ i ∧ i < (n : Int) then rootB ns i.toNat else false
theorem rootB_at {ns : List NodeV} {i : Nat} {x : NodeV} (h : ns[i]? = some x) : rootB ns i = (!textK x.s && (i == 0 || x.s.kind == 2 || x.s.flow || x.s.float != 0 || (parI ns i != -1 && kindAt ns (parI ns i).toNat == 2))) := by unfold rootB; rw [h]

set_option maxRecDepth 100000 in
set_option maxHeartbeats 1600000 in
theorem root_h (t : TreeV) (i : Int) (w : World) (h : Hid (TreeAt w t)) (hn : t.nn ≤ 100000) :
    Calls Try.prog 28 #[.agg #[.slice t.na t.nn t.nc, .slice t.aa t.an t.ac, .int .i64 t.view], .int .i64 i] w fun e w' => e = .returned (.bool (rootI t.ns t.nn i)) ∧ Below w.heap.size w w' := by
  have hd : Hid (rootI t.ns t.nn i = if 0 ≤ i ∧ i < (t.nn : Int) then rootB t.ns i.toNat else false) := Lib.hid rfl
  have kp := fun i w h hi => parent_h t i w h hi hn
  go_enter Try.func28, Try.ntmps28
  go_upto_region 1 with fail
  generalize hW : World.alloc w _ = V
  have hT := TBox.start h.out hW
  obtain ⟨g, hg⟩ : ∃ g, g = w.heap.size := ⟨_, rfl⟩
  rw [← hg] at hT ⊢
  clear hW hg
  obtain ⟨k0, k1, k2⟩ := hT.cells
  by_cases h0 : i < 0
  · replace hT := Lib.hid hT
    go_wp2_with fail
    go_ret
    exact ⟨by rw [hd.out, if_neg (by omega)]; rfl, hT.out.hb⟩
  by_cases h1 : (t.nn : Int) ≤ i
  · replace hT := Lib.hid hT
    go_wp2_with fail
    go_ret
    exact ⟨by rw [hd.out, if_neg (by omega)]; rfl, hT.out.hb⟩
  replace hd := Lib.hid (hd.out.trans (if_pos ⟨by omega, by omega⟩))
  obtain ⟨j, rfl⟩ : ∃ j : Nat, i = (j : Int) := ⟨i.toNat, by omega⟩
  rw [Int.toNat_natCast] at hd
  have hlt : j < t.nn := by omega
  obtain ⟨x, hx⟩ : ∃ x, t.ns[j]? = some x := ⟨_, List.getElem?_eq_getElem (by rw [← h.out.nodes.len]; exact hlt)⟩
  obtain ⟨a, ha, hab, cx, ax⟩ := hT.at_.nodes.at_.node (Nat.le_refl _) hx
  rw [ha] at k0
  replace hd := Lib.hid (hd.out.trans (rootB_at hx))
  have j1 : (0 : Int) ≤ (j : Int) := by omega
  have j2 : (j : Int) < (t.nn : Int) := by omega
  have kt := text_h x.s (a.add (j * 44)).block ((a.add (j * 44)).off + 1) V (Lib.hid ax)
  have c0 := ax.2 0 _ rfl
  simp only [Nat.add_zero] at c0
  have c1 := ax.2 1 _ rfl
  have c2 := ax.2 2 _ rfl
  have kk := kp j V (Lib.hid hT.at_) hlt
  rw [ha] at kk
  replace hT := Lib.hid hT
  clear hx ax cx h0 h1
  cases htx : textK x.s
  case true =>
    rw [htx] at kt
    go_wp2_with (go_at_call 47; refine kt.mono ?_; rintro e w1 ⟨rfl, rfl⟩)
    go_ret
    exact ⟨by rw [hd.out, htx]; rfl, hT.out.hb⟩
  rw [htx] at kt
  by_cases hj0 : j = 0
  · have hj0' : ((j : Int) == 0) = true := by simpa using hj0
    replace hj0 := Lib.hid hj0
    go_wp2_with (go_at_call 47; refine kt.mono ?_; rintro e w1 ⟨rfl, rfl⟩)
    go_ret
    exact ⟨by rw [hd.out, htx, hj0.out]; rfl, hT.out.hb⟩
  have hj0' : ((j : Int) == 0) = false := by simpa using hj0
  have hj0b : (j == 0) = false := by simpa using hj0
  rw [htx, hj0b] at hd
  replace hj0 := Lib.hid hj0
  cases hk2 : (x.s.kind == 2)
  case true =>
    go_wp2_with (go_at_call 47; refine kt.mono ?_; rintro e w1 ⟨rfl, rfl⟩)
    go_ret
    exact ⟨by rw [hd.out, hk2]; rfl, hT.out.hb⟩
  cases hfl : x.s.flow
  case true =>
    rw [hfl] at c1
    go_wp2_with (go_at_call 47; refine kt.mono ?_; rintro e w1 ⟨rfl, rfl⟩)
    go_ret
    exact ⟨by rw [hd.out, hk2, hfl]; rfl, hT.out.hb⟩
  rw [hfl] at c1
  cases hft : (x.s.float != 0)
  case true =>
    go_wp2_with (go_at_call 47; refine kt.mono ?_; rintro e w1 ⟨rfl, rfl⟩)
    go_ret
    exact ⟨by rw [hd.out, hk2, hfl, hft]; rfl, hT.out.hb⟩
  rw [hk2, hfl, hft] at hd
  rcases parI_cases t.ns j with hp | ⟨p, hp, hpk⟩
  · rw [hp] at kk hd
    go_wp2_with (first | (go_at_call 47; refine kt.mono ?_; rintro e w1 ⟨rfl, rfl⟩) | (go_at_call 43; refine kk.mono ?_; rintro e w1 ⟨rfl, hb1⟩; replace hb1 := Lib.hid (hT.out.below hb1)))
    go_ret
    exact ⟨by first | (rw [hd.out]; done) | (rw [hd.out]; rfl), hb1.out.hb⟩
  · rw [hp] at kk hd
    obtain ⟨y, hy⟩ : ∃ y, t.ns[p]? = some y := ⟨_, List.getElem?_eq_getElem (by rw [← h.out.nodes.len]; omega)⟩
    have hky := Lib.hid (kindAt_at hy)
    go_upto_region 9 with (first | (go_at_call 47; refine kt.mono ?_; rintro e w1 ⟨rfl, rfl⟩) | (go_at_call 43; refine kk.mono ?_; rintro e w1 ⟨rfl, hb1⟩))
    have hT2 := hT.out.below hb1
    obtain ⟨m0, m1, m2⟩ := hT2.cells
    obtain ⟨a2, ha2, -, cy, ay⟩ := hT2.at_.nodes.at_.node (Nat.le_refl _) hy
    rw [ha2] at m0
    have d0 := ay.2 0 _ rfl
    simp only [Nat.add_zero] at d0
    have p1 : (0 : Int) ≤ (p : Int) := by omega
    have p2 : (p : Int) < (t.nn : Int) := by omega
    replace hT2 := Lib.hid hT2
    have hpn : ((p : Int) != -1) = true := by first | (simp; done) | (simp; omega)
    clear k0 k1 k2 c0 c1 c2 kk kt hb1 ay cy hy ha2 ha hT
    go_wp2_with fail
    go_ret
    exact ⟨by first | (rw [hd.out, Int.toNat_natCast, hky.out, hpn]; done) | (rw [hd.out, Int.toNat_natCast, hky.out, hpn]; rfl), hT2.out.hb⟩
end Go.Proofs.Ytcgblbbadbkdgaa
