/-
  Contract of style.choiceless, of style's list of rules.
-/
import Derived.Test.YtcgblbbadbkdgaaRules
import Derived.Test.YtcgblbbadbkdgaaEq4
import Derived.Deep.RegionHeld3
namespace Go.Proofs.Ytcgblbbadbkdgaa
open Go.RowKit Go.Shelf

set_option maxRecDepth 100000 in
set_option maxHeartbeats 1600000 in
theorem rule16 (g : Nat) (s : Style) : Says 77 g s (rule s 16) := fun w h => by
  have e1 := fun w => flags_eq s.flow s.wrap false false w
  have e2 := fun w => five_eq s.float s.clear s.align s.justify s.items 0 0 0 0 0 w
  have e3 := fun w => sides_eq4 s.line s.order s.grow s.shrink 0 0 0 0 w
  have hr : Hid (rule s 16 = ((s.flow == false && s.wrap == false) && (s.float == 0 && s.clear == 0 && s.align == 0 && s.justify == 0 && s.items == 0) && (s.line == 0 && s.order == 0 && s.grow == 0 && s.shrink == 0))) :=
    Lib.hid (by simp [rule, Bool.and_assoc])
  generalize rule s 16 = b at *
  have hz1 := flags_zero
  have hz2 := five_zero
  have hz3 := sides_zero
  have c1 := h.2 1 _ rfl
  have c34 := h.2 34 _ rfl
  have hg := h.1
  have h := Lib.hid h
  go_enter Try.func77, Try.ntmps77
  go_wp2_with fail
  go_region_held3 (fun w' => w'.cell? ⟨g, 1, none⟩ = some (.bool s.flow) ∧ w'.cell? ⟨g, 34, none⟩ = some (.bool s.wrap)) (first | (go_keep; done)) (first | fail)
  generalize hW : World.alloc _ _ = W1
  obtain ⟨h1, b1, hb1⟩ : AtS W1.drew g s ∧ Box W1.drew w.heap.size [.bool s.flow, .bool s.wrap] ∧ Below w.heap.size w W1.drew := by
    subst hW
    exact ⟨h.out.below ((Below.refl _ _).alloc (Nat.le_refl _) _).drew, (Box.new w [_, _] _).drew, ((Below.refl _ _).alloc (Nat.le_refl _) _).drew⟩
  generalize W1.drew = W2 at *
  clear hW h c1 c34 hg
  have hg := h1.1
  have c2 := h1.2 2 _ rfl
  have c3 := h1.2 3 _ rfl
  have c32 := h1.2 32 _ rfl
  have c35 := h1.2 35 _ rfl
  have c36 := h1.2 36 _ rfl
  have h := Lib.hid h1
  have b1 := Lib.hid b1
  have hb1 := Lib.hid hb1
  clear h1
  go_wp2_with fail
  go_region_held3 (fun w' => w'.cell? ⟨g, 2, none⟩ = some (.int .u8 s.float) ∧ w'.cell? ⟨g, 3, none⟩ = some (.int .u8 s.clear) ∧ w'.cell? ⟨g, 32, none⟩ = some (.int .u8 s.align) ∧ w'.cell? ⟨g, 35, none⟩ = some (.int .u8 s.justify) ∧ w'.cell? ⟨g, 36, none⟩ = some (.int .u8 s.items)) (first | (go_keep; done)) (first | fail)
  generalize hW : World.alloc _ _ = W3
  obtain ⟨h1, b2, b3, hb2⟩ : AtS W3.drew g s ∧ Box W3.drew w.heap.size [.bool s.flow, .bool s.wrap] ∧ Box W3.drew W2.heap.size [.int .u8 s.float, .int .u8 s.clear, .int .u8 s.align, .int .u8 s.justify, .int .u8 s.items] ∧ Below w.heap.size w W3.drew := by
    subst hW
    exact ⟨h.out.below ((Below.refl _ _).alloc (Nat.le_refl _) _).drew, (b1.out.alloc _).drew, (Box.new W2 [_, _, _, _, _] _).drew, (hb1.out.alloc hb1.out.size _).drew⟩
  generalize W3.drew = W4 at *
  generalize W2.heap.size = g2 at *
  clear hW h b1 hb1 c2 c3 c32 c35 c36 hg
  have hg := h1.1
  have c33 := h1.2 33 _ rfl
  have c37 := h1.2 37 _ rfl
  have c38 := h1.2 38 _ rfl
  have c39 := h1.2 39 _ rfl
  have h := Lib.hid h1
  have b1 := Lib.hid b2
  have b2 := Lib.hid b3
  have hb1 := Lib.hid hb2
  clear h1 b3 hb2
  go_wp2_with fail
  go_region_held3 (fun w' => w'.cell? ⟨g, 33, none⟩ = some (.int .i64 s.line) ∧ w'.cell? ⟨g, 37, none⟩ = some (.int .i64 s.order) ∧ w'.cell? ⟨g, 38, none⟩ = some (.int .i64 s.grow) ∧ w'.cell? ⟨g, 39, none⟩ = some (.int .i64 s.shrink)) (first | (go_keep; done)) (first | fail)
  generalize hW : World.alloc _ _ = W5
  obtain ⟨b3, b4, b5, hb2⟩ : Box W5.drew w.heap.size [.bool s.flow, .bool s.wrap] ∧ Box W5.drew g2 [.int .u8 s.float, .int .u8 s.clear, .int .u8 s.align, .int .u8 s.justify, .int .u8 s.items] ∧ Box W5.drew W4.heap.size [.int .i64 s.line, .int .i64 s.order, .int .i64 s.grow, .int .i64 s.shrink] ∧ Below w.heap.size w W5.drew := by
    subst hW
    exact ⟨(b1.out.alloc _).drew, (b2.out.alloc _).drew, (Box.new W4 [_, _, _, _] _).drew, (hb1.out.alloc hb1.out.size _).drew⟩
  generalize W5.drew = W6 at *
  generalize W4.heap.size = g4 at *
  clear hW h b1 b2 hb1 c33 c37 c38 c39 hg
  have x0 := b3.cell 0 _ rfl
  have x1 := b3.cell 1 _ rfl
  have y0 := b4.cell 0 _ rfl
  have y1 := b4.cell 1 _ rfl
  have y2 := b4.cell 2 _ rfl
  have y3 := b4.cell 3 _ rfl
  have y4 := b4.cell 4 _ rfl
  have u0 := b5.cell 0 _ rfl
  have u1 := b5.cell 1 _ rfl
  have u2 := b5.cell 2 _ rfl
  have u3 := b5.cell 3 _ rfl
  have hb := Lib.hid hb2
  clear b3 b4 b5 hb2
  generalize (s.flow == false && s.wrap == false) = z1 at *
  generalize (s.float == 0 && s.clear == 0 && s.align == 0 && s.justify == 0 && s.items == 0) = z2 at *
  generalize (s.line == 0 && s.order == 0 && s.grow == 0 && s.shrink == 0) = z3 at *
  cases z1
  · go_wp2_with fail
    go_ret
    exact ⟨by rw [hr.out]; rfl, hb.out⟩
  cases z2
  · go_wp2_with fail
    go_ret
    exact ⟨by rw [hr.out]; rfl, hb.out⟩
  · go_wp2_with fail
    go_ret
    exact ⟨by rw [hr.out]; rfl, hb.out⟩
end Go.Proofs.Ytcgblbbadbkdgaa
