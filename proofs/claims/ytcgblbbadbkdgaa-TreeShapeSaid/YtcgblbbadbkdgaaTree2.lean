/-
  Contract of package tree: what is wrong with a child.
-/
import Derived.Test.YtcgblbbadbkdgaaTree1
import Derived.Deep.QuietTactic
import Derived.BigQuiet
namespace Go.Proofs.Ytcgblbbadbkdgaa
open Go.RowKit
set_option linter.unusedVariables false

def childI (s : Style) (d k : Int) (e : Style) : Int := if aloneI s d ≠ 0 then aloneI s d else if fitsB s k e = true then 0 else 6
set_option maxRecDepth 100000 in
set_option maxHeartbeats 1600000 in
theorem child_h (t : TreeV) (i p : Nat) (d : Int) (x y z : NodeV) (w : World) (h : Hid (TreeAt w t)) (hx : Hid (t.ns[i]? = some x)) (hy : Hid (t.ns[p]? = some y)) (hz : Hid (t.ns[p + 1]? = some z)) (hxp : Hid (x.p = (p : Int))) (hp : p < i) (hi : i < t.nn) (hn : t.nn ≤ 100000) :
    Calls Try.prog 41 #[.agg #[.slice t.na t.nn t.nc, .slice t.aa t.an t.ac, .int .i64 t.view], .int .i64 i, .int .i64 d] w fun e w' => e = .returned (.int .i64 (childI x.s d y.s.kind z.s)) ∧ Below w.heap.size w w' := by
  have hi1 : (0 : Int) ≤ (i : Int) := by omega
  have hi2 : (i : Int) < (t.nn : Int) := by omega
  have hp1 : (0 : Int) ≤ (p : Int) := by omega
  have hp2 : (p : Int) < (t.nn : Int) := by omega
  have hp3 : (0 : Int) ≤ (p : Int) + 1 := by omega
  have hp4 : (p : Int) + 1 < (t.nn : Int) := by omega
  have hd : Hid (childI x.s d y.s.kind z.s = if aloneI x.s d ≠ 0 then aloneI x.s d else if fitsB x.s y.s.kind z.s = true then 0 else 6) := Lib.hid rfl
  go_enter Try.func41, Try.ntmps41
  go_upto_region 1 with fail
  generalize hW : World.alloc w _ = V
  have hT := TBox.start h.out hW
  obtain ⟨k0, k1, k2⟩ := hT.cells
  obtain ⟨a, ha, hb, cx, ax⟩ := hT.at_.nodes.at_.node (Nat.le_refl _) hx.out
  obtain ⟨a2, ha2, -, cy, ay⟩ := hT.at_.nodes.at_.node (Nat.le_refl _) hy.out
  obtain ⟨a3, ha3, -, cz, az⟩ := hT.at_.nodes.at_.node (Nat.le_refl _) hz.out
  obtain rfl : a = a2 := Option.some.inj (ha.symm.trans ha2)
  obtain rfl : a = a3 := Option.some.inj (ha.symm.trans ha3)
  rw [ha] at k0
  rw [hxp.out] at cx
  have hT' := Lib.hid hT
  replace hb := Lib.hid hT.hb
  clear hW ha ha2 ha3 hx hy hz h hT k1 k2 cz cy
  have hgl : w.heap.size < V.heap.size := hT'.out.box.lt
  clear hT'
  generalize w.heap.size = g at k0 hgl ⊢
  go_quiet (fail)
  have hbq := bl_drewN (Below.refl V.heap.size V) nq
  replace k0 := (hbq.cell (p := ⟨g, 0, none⟩) hgl).trans k0
  replace cx := Lib.hid ax
  replace ax := ax.below hbq
  replace ay := ay.below hbq
  replace az := az.below hbq
  replace hb := hb.out.trans (hbq.mono hb.out.size)
  have hg2 := Nat.lt_of_lt_of_le hgl hbq.size
  generalize V.drewN nq = V2 at *
  clear hbq cx
  have ka := alone_h x.s d (a.add (i * 44)).block ((a.add (i * 44)).off + 1) V2 (Lib.hid ax)
  generalize aloneI x.s d = e1 at *
  by_cases h1 : e1 = 0
  case neg =>
    have h1' : (e1 != 0) = true := by simpa using h1
    replace hb := Lib.hid hb
    clear ax ay az
    go_wp2_with (go_at_call 80; refine ka.mono ?_; rintro e w1 ⟨rfl, hb1⟩; replace hb1 := Lib.hid (hb.out.trans (hb1.mono hb.out.size)))
    go_ret
    exact ⟨by rw [hd.out, if_pos h1]; rfl, hb1.out⟩
  have hd2 := Lib.hid (hd.out.trans (if_neg (by simpa using h1)))
  subst h1
  clear hd
  replace hb := Lib.hid hb
  replace ax := Lib.hid ax
  replace ay := Lib.hid ay
  replace az := Lib.hid az
  go_upto_region 5 with (go_at_call 80; refine ka.mono ?_; rintro e w1 ⟨rfl, hb1⟩)
  replace k0 := (hb1.cell (p := ⟨g, 0, none⟩) hg2).trans k0
  have ax := Lib.hid (ax.out.below hb1)
  have ay := Lib.hid (ay.out.below hb1)
  have az := Lib.hid (az.out.below hb1)
  replace hb1 := Lib.hid (hb.out.trans (hb1.mono hb.out.size))
  have c1 := ay.out.2 0 _ rfl
  simp only [Nat.add_zero] at c1
  have kf := fits_h x.s z.s y.s.kind (a.add (i * 44)).block ((a.add (i * 44)).off + 1) (a.add ((p + 1) * 44)).block ((a.add ((p + 1) * 44)).off + 1) w1 ax az
  generalize fitsB x.s y.s.kind z.s = f at *
  clear ka hb
  cases f
  all_goals
    go_wp2_with (go_at_call 82; refine kf.mono ?_; rintro e w2 ⟨rfl, rfl⟩)
    go_ret
    exact ⟨by rw [hd2.out]; rfl, hb1.out⟩
end Go.Proofs.Ytcgblbbadbkdgaa
