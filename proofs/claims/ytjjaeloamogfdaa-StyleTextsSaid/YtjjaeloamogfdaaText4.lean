/-
  What the statement on texts keeps: a text in a block of the law's own.
-/
import Derived.Test.YtjjaeloamogfdaaWorks4
import Derived.Test.YtjjaeloamogfdaaView5
import Derived.Test.YtjjaeloamogfdaaLaw
import Derived.Test.YtjjaeloamogfdaaVast4
import Derived.Deep.CutBlock
import Derived.Deep.DeepCutAuto
import Derived.Deep.RegionHeld3
import Derived.ProofKit
import Derived.OpenShut
import Derived.BigGuard
namespace Go.Proofs.Ytjjaeloamogfdaa
open Go.ChangeShapes Go.WideShapes Go.ChangeAt Go.RowKit Go.Proofs.Ytjjaeloamogfdaa
set_option linter.unusedVariables false

/-- A text of n units that lie at A. -/
def textS (A : Option Addr) (n c : Nat) : Style := { style0 with kind := 3, ua := A, un := n, uc := c }
theorem text_right (A : Option Addr) (n c : Nat) : rightB (textS A n c) = decide (n ≤ 65536) := by
  simp [rightB, textB, textS, style0, rule, zeroLen, Style.margins, Style.borders, Style.paddings]

theorem text_ok (A : Option Addr) (n c : Nat) (h : n ≤ 65536) : rightB (textS A n c) = true := by rw [text_right]; exact decide_eq_true h
theorem text_no (A : Option Addr) (n c : Nat) (h : ¬ n ≤ 65536) : rightB (textS A n c) = false := by rw [text_right]; exact decide_eq_false h

/-- The style lies in block g, which the law laid; nothing below has turned. -/
structure TB (W : World) (g : Nat) (s : Style) (w : World) : Prop where
  box : Box w g (styE s)
  ge : W.heap.size ≤ g
  hb : Below W.heap.size W w
theorem TB.below {W : World} {g : Nat} {s : Style} {w w' : World} (h : TB W g s w) (hb : Below w.heap.size w w') : TB W g s w' := ⟨h.box.below hb, h.ge, h.hb.trans (hb.mono h.hb.size)⟩
theorem TB.ats {W : World} {g : Nat} {s : Style} {w : World} (h : TB W g s w) : Hid (AtS w g s) := Lib.hid (AtS.of h.box)
theorem TB.set {W : World} {g : Nat} {s : Style} {w : World} (h : TB W g s w) (i : Nat) (u : Value) (s' : Style) (e : (styE s).set i u = styE s') (hi : i < 43) : TB W g s' (w.setCell ⟨g, i, none⟩ u) :=
  ⟨by rw [← e]; exact h.box.set i u (by rw [styE_len]; exact hi), h.ge, h.hb.setCell h.ge _⟩
theorem TB.put {W : World} {g : Nat} {s : Style} {w : World} (h : TB W g s w) {i : Nat} (hi : i < 11) (l : LenV) : TB W g (s.put i l) ((w.setCell ⟨g, offOf i, none⟩ (.int .u8 l.k)).setCell ⟨g, offOf i + 1, none⟩ (.int .i64 l.n)) :=
  ⟨put_box h.box hi l, h.ge, (h.hb.setCell h.ge _).setCell h.ge _⟩
theorem TB.at_ {W : World} {g : Nat} {s : Style} {w : World} (h : TB W g s w) {i : Nat} (hi : i < 11) :
    w.cell? ⟨g, offOf i, none⟩ = some (.int .u8 (s.len i).k) ∧ w.cell? ⟨g, offOf i + 1, none⟩ = some (.int .i64 (s.len i).n) ∧ w.frozen? ⟨g, offOf i, none⟩ = false ∧ w.frozen? ⟨g, offOf i + 1, none⟩ = false :=
  have := off_lt hi
  ⟨h.box.cell _ _ (off_cells s hi).1, h.box.cell _ _ (off_cells s hi).2, h.box.free _ (by rw [styE_len]; omega), h.box.free _ (by rw [styE_len]; omega)⟩

theorem styE_one (s : Style) : (styE s).toArray.all (·.oneCell') = true := by
  refine all_oneCell_toArray fun v hv => ?_
  simp only [styE, List.mem_cons, List.not_mem_nil, or_false] at hv
  rcases hv with rfl | rfl | rfl | rfl | rfl | rfl | rfl | rfl | rfl | rfl | rfl | rfl | rfl | rfl | rfl | rfl | rfl | rfl | rfl | rfl | rfl | rfl | rfl | rfl | rfl | rfl | rfl | rfl | rfl | rfl | rfl | rfl | rfl | rfl | rfl | rfl | rfl | rfl | rfl | rfl | rfl | rfl | rfl <;> rfl
theorem infoU16 : (Try.prog.info? 36).map (fun i => (i.zero, i.size, i.bytes)) = some (some (.int .u16 0), 1, 2) := by kernel_rfl
theorem u16E_one (z : Int) : ∀ u ∈ u16E z, u.oneCell' = true := by intro u hu; simp [u16E] at hu; subst hu; rfl
theorem own_open {w : World} {base : Nat} {v : Value} {n : Nat} {l : List Int} (h : w.ownsRow base 36 1 v (0 + n) (([] ++ l).flatMap u16E)) : ∃ (A : Option Addr) (c : Nat), v = .slice A n c := by
  rw [Nat.zero_add, List.nil_append] at h
  obtain ⟨A, c, e, _, _⟩ := Sl.own h u16E_len (by omega)
  exact ⟨A, c, e⟩

end Go.Proofs.Ytjjaeloamogfdaa
