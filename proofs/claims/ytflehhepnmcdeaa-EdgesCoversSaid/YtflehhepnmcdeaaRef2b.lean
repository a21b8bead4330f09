/-
  Contracts of the document's answer for edges: less of numbers of any size.
-/
import Derived.Test.YtflehhepnmcdeaaRef2a
import Derived.Deep.RegionHeld3
namespace Go.Proofs.Ytflehhepnmcdeaa
open Go.RowKit

theorem sgn_neg {m : Bool} {l : List Bool} (h : TopS m l) : m = decide (sgn m l < 0) := by
  unfold sgn
  cases m with
  | false => simp
  | true => have := h.2 rfl; simp; omega

theorem later_cells {W w1 : World} (hb : Below W.heap.size W w1) : (∀ b o, b < W.heap.size → w1.cell? ⟨b, o, none⟩ = W.cell? ⟨b, o, none⟩) ∧ (∀ b o, b < W.heap.size → w1.frozen? ⟨b, o, none⟩ = W.frozen? ⟨b, o, none⟩) :=
  ⟨fun b o h => hb.cell (p := ⟨b, o, none⟩) h, fun b o h => hb.frozen (p := ⟨b, o, none⟩) h⟩

theorem big_boxes (w : World) (a b c d : Value) (W : World) (h : (w.alloc (.cells #[a, b] 59)).alloc (.cells #[c, d] 59) = W) :
    BCell W w.heap.size a b ∧ BCell W (w.heap.size + 1) c d ∧ Below w.heap.size w W ∧ W.heap.size = w.heap.size + 2 := by
  subst h
  refine ⟨(BCell.new w a b _).alloc _, ?_, ((Below.refl _ _).alloc (Nat.le_refl _) _).alloc (by simp) _, by simp⟩
  simpa using BCell.new (w.alloc (.cells #[a, b] 59)) c d 59
theorem four_cells {W : World} {g h : Nat} {a b c d : Value} (b1 : BCell W g a b) (b2 : BCell W h c d) : W.cell? ⟨g, 0, none⟩ = some a ∧ W.cell? ⟨g, 1, none⟩ = some b ∧ W.cell? ⟨h, 0, none⟩ = some c ∧ W.cell? ⟨h, 1, none⟩ = some d := ⟨b1.c0, b1.c1, b2.c0, b2.c1⟩

theorem SlB.al {w : World} {A : Option Addr} {n c : Nat} {l : List Bool} (h : SlB w A n c l) (o : Obj) : SlB (w.alloc o) A n c l := h.keep ((Below.refl _ _).alloc (Nat.le_refl _) o)

/-- What stays through a region that reads two Bigs. -/
structure LInv (w : World) (ma mb : Bool) (A C : Option Addr) (n k cA cC : Nat) (al bl : List Bool) (v : World) : Prop where
  b1 : BCell v w.heap.size (.bool ma) (.slice A n cA)
  b2 : BCell v (w.heap.size + 1) (.bool mb) (.slice C k cC)
  hb : Below w.heap.size w v
  sA : SlB v A n cA al
  sC : SlB v C k cC bl
section
variable {w v v' : World} {ma mb : Bool} {A C : Option Addr} {n k cA cC : Nat} {al bl : List Bool}
theorem LInv.below (h : LInv w ma mb A C n k cA cC al bl v) (hb : Below v.heap.size v v') : LInv w ma mb A C n k cA cC al bl v' :=
  ⟨h.b1.below hb h.b1.lt, h.b2.below hb h.b2.lt, h.hb.trans (hb.mono h.hb.size), h.sA.keep hb, h.sC.keep hb⟩
theorem LInv.alloc (h : LInv w ma mb A C n k cA cC al bl v) (o : Obj) : LInv w ma mb A C n k cA cC al bl (v.alloc o) := h.below ((Below.refl _ _).alloc (Nat.le_refl _) o)
theorem LInv.drew (h : LInv w ma mb A C n k cA cC al bl v) : LInv w ma mb A C n k cA cC al bl v.drew := h.below (Below.refl _ _).drew
theorem LInv.cells (h : LInv w ma mb A C n k cA cC al bl v) : v.cell? ⟨w.heap.size, 0, none⟩ = some (.bool ma) ∧ v.cell? ⟨w.heap.size, 1, none⟩ = some (.slice A n cA) ∧ v.cell? ⟨w.heap.size + 1, 0, none⟩ = some (.bool mb) ∧ v.cell? ⟨w.heap.size + 1, 1, none⟩ = some (.slice C k cC) :=
  ⟨h.b1.c0, h.b1.c1, h.b2.c0, h.b2.c1⟩
theorem LInv.put (h : LInv w ma mb A C n k cA cC al bl v) {g : Nat} (hg : w.heap.size + 1 < g) (x y : Value) : ((v.setCell ⟨g, 0, none⟩ x).setCell ⟨g, 1, none⟩ y).cell? ⟨w.heap.size, 0, none⟩ = some (.bool ma) ∧ ((v.setCell ⟨g, 0, none⟩ x).setCell ⟨g, 1, none⟩ y).cell? ⟨w.heap.size, 1, none⟩ = some (.slice A n cA) ∧
    ((v.setCell ⟨g, 0, none⟩ x).setCell ⟨g, 1, none⟩ y).cell? ⟨w.heap.size + 1, 0, none⟩ = some (.bool mb) ∧ ((v.setCell ⟨g, 0, none⟩ x).setCell ⟨g, 1, none⟩ y).cell? ⟨w.heap.size + 1, 1, none⟩ = some (.slice C k cC) := by
  have h1 := (h.b1.setOther ⟨g, 0, none⟩ (by show g ≠ _; omega) x).setOther ⟨g, 1, none⟩ (by show g ≠ _; omega) y
  have h2 := (h.b2.setOther ⟨g, 0, none⟩ (by show g ≠ _; omega) x).setOther ⟨g, 1, none⟩ (by show g ≠ _; omega) y
  exact ⟨h1.c0, h1.c1, h2.c0, h2.c1⟩
end

theorem less_bit {m3 m2 m1 ma mb : Bool} {l3 l2 l1 al bl : List Bool} (h3 : TopS m3 l3) (h2 : sgn m3 l3 = sgn ma al + sgn m2 l2) (h1 : sgn m2 l2 = sgn m1 l1 * sgn mb bl) (h0 : sgn m1 l1 = -1) : m3 = decide (sgn ma al < sgn mb bl) := by
  rw [sgn_neg h3, h2, h1, h0, decide_eq_decide]; omega

set_option maxRecDepth 100000 in
set_option maxHeartbeats 1600000 in
theorem rless_h (ma mb : Bool) (A C : Option Addr) (n k cA cC : Nat) (al bl : List Bool) (w : World) (hSA : Hid (SlB w A n cA al)) (hSC : Hid (SlB w C k cC bl)) (hl : n ≤ 10000) (hl2 : k ≤ 10000) :
    Calls Try.prog 55 #[.agg #[.bool ma, .slice A n cA], .agg #[.bool mb, .slice C k cC]] w fun e w' => e = .returned (.bool (decide (sgn ma al < sgn mb bl))) ∧ Below w.heap.size w w' := by
  have hm1 : I64 (-1) := by constructor <;> decide
  go_enter Try.func55, Try.ntmps55
  go_wp2_with fail
  generalize hW : World.alloc (World.alloc w _) _ = W
  obtain ⟨b1, b2, hb, hs0⟩ := big_boxes _ _ _ _ _ W hW
  clear hW
  have I : LInv w ma mb A C n k cA cC al bl W := ⟨b1, b2, hb, hSA.out.keep hb, hSC.out.keep hb⟩
  have hs := Lib.hid hs0
  have hsz : w.heap.size + 1 < W.heap.size := by omega
  clear hs0 b1 b2 hb hSA hSC
  go_region_held3 (fun w' => w'.cell? ⟨w.heap.size, 0, none⟩ = some (.bool ma) ∧ w'.cell? ⟨w.heap.size, 1, none⟩ = some (.slice A n cA) ∧ w'.cell? ⟨w.heap.size + 1, 0, none⟩ = some (.bool mb) ∧ w'.cell? ⟨w.heap.size + 1, 1, none⟩ = some (.slice C k cC))
    (first | (with_reducible exact I.cells) | (with_reducible exact I.drew.cells) | (with_reducible exact (I.alloc _).cells) | (with_reducible exact (I.alloc _).drew.cells) | (with_reducible exact I.put (by omega) _ _) | (with_reducible exact (I.alloc _).put (by omega) _ _) | (go_keep; done))
    (first | (go_at_call 33; (with_reducible refine (of_any (-1) W.drew hm1).mono ?_); rintro e w1 ⟨m1, E1, k1, c1, l1, rfl, hk1, hv1', ht1, hS1, hb1, hf1⟩; have hv1 := Lib.hid hv1'; clear hv1' ht1; have I := (I.drew).below hb1; have s1 := I.b2.lt; skip)
           | (go_at_call 33; (with_reducible refine (of_any (-1) (W.alloc _).drew hm1).mono ?_); rintro e w1 ⟨m1, E1, k1, c1, l1, rfl, hk1, hv1', ht1, hS1, hb1, hf1⟩; have hv1 := Lib.hid hv1'; clear hv1' ht1; have I := ((I.alloc _).drew).below hb1; have s1 := I.b2.lt; have bD := (BCell.new W (.bool false) (.slice none 0 0) 59)|>.drew |>.below hb1 (by simp))
           | (go_at_call 52; (with_reducible refine (mul_any m1 mb E1 C k1 k c1 cC l1 bl _ (hS1) (I).sC (by omega) (by omega)).mono ?_); rintro e w2 ⟨m2, E2, k2, c2, l2, rfl, hk2, hv2', ht2, hS2, hb2, hf2⟩; have hv2 := Lib.hid hv2'; clear hv2' ht2; have I := (I).below hb2; have s2 := I.b2.lt; try have bD := bD.below hb2 bD.lt)
           | (go_at_call 52; (with_reducible refine (mul_any m1 mb E1 C k1 k c1 cC l1 bl _ (hS1.al _) (I.alloc _).sC (by omega) (by omega)).mono ?_); rintro e w2 ⟨m2, E2, k2, c2, l2, rfl, hk2, hv2', ht2, hS2, hb2, hf2⟩; have hv2 := Lib.hid hv2'; clear hv2' ht2; have I := (I.alloc _).below hb2; have s2 := I.b2.lt; have bD := (BCell.new w1 (.bool false) (.slice none 0 0) 59)|>.below hb2 (by simp))
           | (go_at_call 32; (with_reducible refine (add_any ma m2 A E2 n k2 cA c2 al l2 _ (I).sA (hS2) (by omega) (by omega)).mono ?_); rintro e w3 ⟨m3, E3, k3, c3, l3, rfl, hk3, hv3', ht3, hS3, hb3, hf3⟩; have hv3 := Lib.hid hv3'; clear hv3'; have I := (I).below hb3; have s3 := I.b2.lt; try have bD := bD.below hb3 bD.lt; try (have d0 := bD.c0; have d1 := bD.c1; have e0 := bD.f0; have e1 := bD.f1))
           | (go_at_call 32; (with_reducible refine (add_any ma m2 A E2 n k2 cA c2 al l2 _ (I.alloc _).sA (hS2.al _) (by omega) (by omega)).mono ?_); rintro e w3 ⟨m3, E3, k3, c3, l3, rfl, hk3, hv3', ht3, hS3, hb3, hf3⟩; have hv3 := Lib.hid hv3'; clear hv3'; have I := (I.alloc _).below hb3; have s3 := I.b2.lt; have bD := (BCell.new w2 (.bool false) (.slice none 0 0) 59)|>.below hb3 (by simp); try (have d0 := bD.c0; have d1 := bD.c1; have e0 := bD.f0; have e1 := bD.f1)))
  all_goals
    have hres : Hid (m3 = decide (sgn ma al < sgn mb bl)) := Lib.hid (less_bit ht3 hv3.out hv2.out hv1.out)
    have hbx := Lib.hid I.hb
    have q0 := I.b2.lt
    clear I hS1 hS2 hS3 hb1 hb2 hb3 hf1 hf2 hf3 ht3
    go_wp2_with fail
    go_ret
    refine ⟨by rw [← hres.out]; rfl, ?_⟩
    first | exact hbx.out.alloc hbx.out.size _ | exact (hbx.out.setCell (by simp; omega) _).setCell (by simp; omega) _

theorem rless_any (ma mb : Bool) (A C : Option Addr) (n k cA cC : Nat) (al bl : List Bool) (w : World) (hSA : SlB w A n cA al) (hSC : SlB w C k cC bl) (hl : n ≤ 10000) (hl2 : k ≤ 10000) :
    Calls Try.prog 55 #[.agg #[.bool ma, .slice A n cA], .agg #[.bool mb, .slice C k cC]] w fun e w' => e = .returned (.bool (decide (sgn ma al < sgn mb bl))) ∧ Below w.heap.size w w' :=
  rless_h ma mb A C n k cA cC al bl w (Lib.hid hSA) (Lib.hid hSC) hl hl2
end Go.Proofs.Ytflehhepnmcdeaa
