/-
  Contracts of the document's Of and Size of lengths.
-/
import Derived.Test.YtjjaeloamogfdaaOf4
import Derived.Test.YtjjaeloamogfdaaDivRef
import Derived.Test.YtjjaeloamogfdaaRefWithin
namespace Go.Proofs.Ytjjaeloamogfdaa
open Go.RowKit

theorem rof4_any (l : LenV) (x : Int) (hl : I64 l.n) (hx : I64 x) : OfSays 14 l x := fun w => by
  obtain ⟨k, n⟩ := l
  unfold ofN ofAuto ofFar
  simp only at hl ⊢
  have hb := Lib.hid ((Below.refl w.heap.size w).alloc (Nat.le_refl _) (.cells #[.int .u8 k, .int .i64 n] 23))
  by_cases h1 : k = 1
  · subst h1
    simp only [if_true]
    have hc := fun w => of_any n w hl
    go_enter Try.func14, Try.ntmps14
    go_wp2_with fail
    generalize w.alloc _ = W at *
    refine (hc _).mono ?_; rintro e u1 ⟨m1, E1, k1, c1, l1, rfl, hk1, hv1, ht1, hS1, hb1, hf1⟩
    replace hv1 := Lib.hid hv1
    go_wp2_with fail
    refine (refcut_any m1 E1 k1 c1 l1 _ hS1 (by omega)).mono ?_; rintro e u2 ⟨rfl, hb2⟩
    rw [hv1.out]
    have h2 := hb.out.trans (hb1.mono hb.out.size)
    have h3 := Lib.hid (h2.trans (hb2.mono h2.size))
    clear hb1 hb2 h2 hS1 hc
    go_wp2_with fail
    go_ret3
    exact ⟨rfl, h3.out⟩
  have h1' : (k == 1) = false := by simpa using h1
  rw [if_neg h1, if_neg h1, if_neg h1]
  by_cases h2 : k = 2
  · subst h2
    simp only [if_true]
    have hc := fun w => refmuldiv_any x n 10000 hx hl (by constructor <;> decide) (by decide) w
    go_enter Try.func14, Try.ntmps14
    go_wp2_with (go_at_call 27; refine (hc _).mono ?_; rintro e w1 ⟨rfl, hb1⟩)
    go_ret3
    exact ⟨rfl, hb.out.trans (hb1.mono hb.out.size)⟩
  have h2' : (k == 2) = false := by simpa using h2
  rw [if_neg h2, if_neg h2, if_neg h2]
  clear h1 h2
  go_enter Try.func14, Try.ntmps14
  go_wp2
  go_ret3
  exact ⟨rfl, hb.out⟩

set_option maxRecDepth 100000 in
theorem rsize_of (l a b : LenV) (x : Int) (h1 : OfSays 14 l x) (h2 : OfSays 14 a x) (h3 : OfSays 14 b x) : SizeSays 16 l a b x := fun w => by
  unfold sizeN sizeFar topI
  unfold OfSays at h1 h2 h3
  generalize ofN l x = n1 at *
  generalize ofN a x = n2 at *
  generalize ofN b x = n3 at *
  generalize ofAuto l = z1 at *
  generalize ofAuto a = z2 at *
  generalize ofAuto b = z3 at *
  generalize ofFar l x = f1 at *
  generalize ofFar a x = f2 at *
  generalize ofFar b x = f3 at *
  cases z1
  · simp only [Bool.false_eq_true, if_false]
    go_enter Try.func16, Try.ntmps16
    go_wp2_with fail
    generalize hW : World.alloc (World.alloc (World.alloc w _) _) _ = W
    obtain ⟨b1, b2, b3, hb⟩ := boxes3 w (lenE l) (lenE a) (lenE b) _ _ _ W hW
    clear hW
    have hb := Lib.hid hb
    refine (h1 _).mono ?_; rintro e w1 ⟨rfl, hb1⟩
    have b2 := b2.below hb1
    have b3 := b3.below hb1
    have d0 := b2.cell 0 _ rfl
    have d1 := b2.cell 1 _ rfl
    have hb2 := Lib.hid (hb.out.trans (hb1.mono hb.out.size))
    clear b1 hb hb1
    go_wp2_with fail
    refine (h2 _).mono ?_; rintro e w2 ⟨rfl, hb1⟩
    have b3 := b3.below hb1
    have e0 := b3.cell 0 _ rfl
    have e1 := b3.cell 1 _ rfl
    have hb := Lib.hid (hb2.out.trans (hb1.mono hb2.out.size))
    clear b2 hb1 hb2 d0 d1
    go_wp2_with fail
    refine (h3 _).mono ?_; rintro e w3 ⟨rfl, hb1⟩
    have hb2 := Lib.hid (hb.out.trans (hb1.mono hb.out.size))
    clear b3 hb1 hb e0 e1
    cases z3
    · have hc := fun w => refwithin_any n1 n2 n3 w
      cases f1
      · cases f2
        · go_wp2_with (go_at_call 29; refine (hc _).mono ?_; rintro e w4 ⟨rfl, rfl⟩)
          go_ret3
          exact ⟨rfl, hb2.out⟩
        · go_wp2_with (go_at_call 29; refine (hc _).mono ?_; rintro e w4 ⟨rfl, rfl⟩)
          go_ret3
          exact ⟨rfl, hb2.out⟩
      · go_wp2_with (go_at_call 29; refine (hc _).mono ?_; rintro e w4 ⟨rfl, rfl⟩)
        go_ret3
        exact ⟨rfl, hb2.out⟩
    · have hc := fun w => refwithin_any n1 n2 1099511627776 w
      cases f1
      · cases f2
        · go_wp2_with (go_at_call 29; refine (hc _).mono ?_; rintro e w4 ⟨rfl, rfl⟩)
          go_ret3
          exact ⟨rfl, hb2.out⟩
        · go_wp2_with (go_at_call 29; refine (hc _).mono ?_; rintro e w4 ⟨rfl, rfl⟩)
          go_ret3
          exact ⟨rfl, hb2.out⟩
      · go_wp2_with (go_at_call 29; refine (hc _).mono ?_; rintro e w4 ⟨rfl, rfl⟩)
        go_ret3
        exact ⟨rfl, hb2.out⟩
  · simp only [if_true]
    go_enter Try.func16, Try.ntmps16
    go_wp2_with fail
    generalize hW : World.alloc (World.alloc (World.alloc w _) _) _ = W
    obtain ⟨b1, b2, b3, hb⟩ := boxes3 w (lenE l) (lenE a) (lenE b) _ _ _ W hW
    clear hW b1 b2 b3
    have hb := Lib.hid hb
    refine (h1 _).mono ?_; rintro e w1 ⟨rfl, hb1⟩
    have hb2 := Lib.hid (hb.out.trans (hb1.mono hb.out.size))
    clear hb hb1
    go_wp2_with fail
    go_ret3
    exact ⟨rfl, hb2.out⟩
end Go.Proofs.Ytjjaeloamogfdaa
