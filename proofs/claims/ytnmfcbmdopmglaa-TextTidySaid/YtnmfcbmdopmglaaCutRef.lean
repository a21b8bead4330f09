/-
  Contract of the document's answer for lengths: a number of any size, cut.
-/
import Derived.Test.YtnmfcbmdopmglaaAdd
namespace Go.Proofs.Ytnmfcbmdopmglaa
open Go.RowKit

theorem cut_far (mi : Bool) (al : List Bool) (h : 1099511627776 < Dg.val al) : cutI (sgn mi al) = (if mi then -1099511627776 else 1099511627776) ∧ farI (sgn mi al) = true := by
  unfold cutI farI sgn; cases mi
  · simp; omega
  · simp; omega
theorem cut_near (mi : Bool) (al : List Bool) (h : Dg.val al ≤ 1099511627776) : cutI (sgn mi al) = sgn mi al ∧ farI (sgn mi al) = false := by
  unfold cutI farI sgn; cases mi
  · simp; omega
  · simp; omega

/-- What Cut answers: the number cut, and whether it was beyond; nothing below changed. -/
def MadeCut (w : World) (x : Int) (e : Ending) (w' : World) : Prop := e = .returned (.tuple #[.int .i64 (cutI x), .bool (farI x)]) ∧ Below w.heap.size w w'

theorem one_box (w : World) (a b : Value) (W : World) (h : w.alloc (.cells #[a, b] 86) = W) : BCell W w.heap.size a b ∧ Below w.heap.size w W ∧ W.heap.size = w.heap.size + 1 := by
  subst h
  exact ⟨BCell.new w a b _, (Below.refl _ _).alloc (Nat.le_refl _) _, by simp⟩

theorem s2 {W : World} {g : Nat} {a b : Value} (b1 : BCell W g a b) : W.cell? ⟨g, 1, none⟩ = some b := b1.c1

/-- The digits of a Big. -/
theorem big_field (m : Bool) (E : Option Addr) (k c : Nat) (w : World) : (Instr.field 86 (.agg #[.bool m, .slice E k c]) 1).run Try.prog w = .ok (.slice E k c) w := by kernel_rfl

theorem max_of {mi : Bool} {l : List Bool} (h : sgn mi l = 1099511627776) : Dg.val l = 1099511627776 := by
  unfold sgn at h; split at h <;> omega

set_option maxRecDepth 100000 in
set_option maxHeartbeats 1600000 in
theorem refcut_far (mi : Bool) (A : Option Addr) (n c : Nat) (al : List Bool) (w : World) (hS : Hid (SlB w A n c al)) (hl : n ≤ 50000) (hf : Hid (decide (1099511627776 < Dg.val al) = true)) :
    Calls Try.prog 41 #[.agg #[.bool mi, .slice A n c]] w fun e w' => MadeCut w (sgn mi al) e w' := by
  have hres := Lib.hid (cut_far mi al (of_decide_eq_true hf.out))
  cases mi
  all_goals
    go_enter Try.func41, Try.ntmps41
    go_wp2_with fail
    generalize hW : World.alloc w _ = W
    obtain ⟨b1, hb, hs0⟩ := one_box _ _ _ W hW
    clear hW
    have hs := Lib.hid hs0
    clear hs0
    have c1 := b1.c1
    have hS0 := Lib.hid (hS.out.keep hb)
    have hfd := big_field
    go_region_held3 (fun w' => w'.cell? ⟨w.heap.size, 1, none⟩ = some (.slice A n c))
      (first | exact s2 b11 | (go_keep; done))
      (first | (go_at_call 42; refine (of_any 1099511627776 _ (by constructor <;> decide)).mono ?_; rintro e w1 ⟨m1, E1, k1, cc1, l1, rfl, hk1, hv1, ht1, hS1, hb1, hfr1⟩; have b11 := (b1.drew).below hb1 b1.lt; have hS2 := Lib.hid ((hS0.out.drew).keep hb1); have hS1 := Lib.hid hS1; have hv1 := Lib.hid (max_of hv1))
             | (go_at_call 53; refine (less_any E1 A k1 n cc1 c _ _ l1 al _ (Lib.hid hS1.out.bits) (Lib.hid hS2.out.bits) (Lib.hid hS1.out.len) (Lib.hid hS2.out.len) (by omega) (by omega)).mono ?_; rintro e w2 ⟨rfl, rfl⟩; rw [hv1.out, hf.out]))
    have hbw : Below w.heap.size w w1 := (hb.drew).trans (hb1.mono (by show _ ≤ W.heap.size; rw [hs.out]; omega))
    have e0 := b11.c0
    go_wp2_with fail
    go_ret2
    exact ⟨by rw [hres.out.1, hres.out.2]; rfl, hbw⟩
set_option maxRecDepth 100000 in
set_option maxHeartbeats 1600000 in
theorem refcut_near (mi : Bool) (A : Option Addr) (n c : Nat) (al : List Bool) (w : World) (hS : Hid (SlB w A n c al)) (hl : n ≤ 50000) (hf : Hid (decide (1099511627776 < Dg.val al) = false)) :
    Calls Try.prog 41 #[.agg #[.bool mi, .slice A n c]] w fun e w' => MadeCut w (sgn mi al) e w' := by
  have hle : Dg.val al ≤ 1099511627776 := by have := of_decide_eq_false hf.out; omega
  have hres := Lib.hid (cut_near mi al hle)
  have hst : Hid (((Dg.val (al.drop ((n : Int) - 1 + 1).toNat) : Nat) : Int) = 0) := Lib.hid (by rw [List.drop_of_length_le (by rw [← hS.out.len]; omega)]; rfl)
  cases mi
  all_goals
    go_enter Try.func41, Try.ntmps41
    go_wp2_with fail
    generalize hW : World.alloc w _ = W
    obtain ⟨b1, hb, hs0⟩ := one_box _ _ _ W hW
    clear hW
    have hs := Lib.hid hs0
    clear hs0
    have c1 := b1.c1
    have hS0 := Lib.hid (hS.out.keep hb)
    have hfd := big_field
    go_region_held3 (fun w' => w'.cell? ⟨w.heap.size, 1, none⟩ = some (.slice A n c))
      (first | exact s2 b11 | (go_keep; done))
      (first | (go_at_call 42; refine (of_any 1099511627776 _ (by constructor <;> decide)).mono ?_; rintro e w1 ⟨m1, E1, k1, cc1, l1, rfl, hk1, hv1, ht1, hS1, hb1, hfr1⟩; have b11 := (b1.drew).below hb1 b1.lt; have hS2 := Lib.hid ((hS0.out.drew).keep hb1); have hS1 := Lib.hid hS1; have hv1 := Lib.hid (max_of hv1))
             | (go_at_call 53; refine (less_any E1 A k1 n cc1 c _ _ l1 al _ (Lib.hid hS1.out.bits) (Lib.hid hS2.out.bits) (Lib.hid hS1.out.len) (Lib.hid hS2.out.len) (by omega) (by omega)).mono ?_; rintro e w2 ⟨rfl, rfl⟩; rw [hv1.out, hf.out]))
    have hbw : Below w.heap.size w w1 := (hb.drew).trans (hb1.mono (by show _ ≤ W.heap.size; rw [hs.out]; omega))
    have e0 := b11.c0
    have e1 := b11.c1
    have hS3 := Lib.hid hS2.out.bits
    have hn3 := Lib.hid hS2.out.len
    have hbw := Lib.hid hbw
    clear b1 hb hb1 b11
    go_wp2_with fail
    go_loop [4, 5] (fun v u => ∃ i : Int, u = .int .i64 i ∧ -1 ≤ i ∧ i < n ∧ v = .int .i64 ((Dg.val (al.drop (i + 1).toNat) : Nat) : Int)) (fun _ u => (intOf u + 1).toNat)
    case atStart => exact ⟨_, rfl, by omega, by omega, by rw [hst.out]⟩
    case round =>
      obtain ⟨i, rfl, hi1, hi2, rfl⟩ := hrel
      by_cases hi : 0 ≤ i
      · obtain ⟨j, rfl⟩ := Int.eq_ofNat_of_zero_le hi
        have h1 := Dg.dig_le al j
        have hvj := val_drop_le al j
        have hvj1 := val_drop_le al ((j : Int) + 1).toNat
        have hnx : Hid (2 * ((Dg.val (al.drop ((j : Int) + 1).toNat) : Nat) : Int) + (Dg.dig al j : Int) = ((Dg.val (al.drop ((j : Int) - 1 + 1).toNat) : Nat) : Int)) := by
          refine Lib.hid ?_
          rw [show ((j : Int) + 1).toNat = j + 1 by omega, show ((j : Int) - 1 + 1).toNat = j by omega, Dg.val_drop al j]
          omega
        have hb3 : 2 * ((Dg.val (al.drop ((j : Int) + 1).toNat) : Nat) : Int) ≤ 1000000000000000 := by omega
        generalize Dg.val (al.drop ((j : Int) + 1).toNat) = V at *
        have ca := Lib.hid (at_any A n c j _ al w1 hS3.out hn3 (by omega))
        go_wp2_with fail
        refine ca.out.mono ?_; rintro e w' ⟨rfl, rfl⟩
        go_wp2_with fail
        go_round
        case rel => exact ⟨_, rfl, by omega, by omega, by rw [← hnx.out]⟩
        case measure => simp [intOf]
      · have hi' : i = -1 := by omega
        subst hi'
        have hv : Hid ((Dg.val (al.drop ((-1 : Int) + 1).toNat) : Nat) = Dg.val al) := Lib.hid (by rw [show ((-1 : Int) + 1).toNat = 0 from rfl, List.drop_zero])
        have hb3 := val_drop_le al ((-1 : Int) + 1).toNat
        generalize Dg.val (al.drop ((-1 : Int) + 1).toNat) = V at *
        go_wp2_with fail
        go_ret2
        exact ⟨by rw [hres.out.1, hres.out.2]; simp [sgn, hv.out], hbw.out⟩
theorem refcut_any (mi : Bool) (A : Option Addr) (n c : Nat) (al : List Bool) (w : World) (hS : SlB w A n c al) (hl : n ≤ 50000) :
    Calls Try.prog 41 #[.agg #[.bool mi, .slice A n c]] w fun e w' => MadeCut w (sgn mi al) e w' := by
  rcases hd : decide (1099511627776 < Dg.val al) with _ | _
  · exact refcut_near mi A n c al w (Lib.hid hS) hl (Lib.hid hd)
  · exact refcut_far mi A n c al w (Lib.hid hS) hl (Lib.hid hd)
end Go.Proofs.Ytnmfcbmdopmglaa
