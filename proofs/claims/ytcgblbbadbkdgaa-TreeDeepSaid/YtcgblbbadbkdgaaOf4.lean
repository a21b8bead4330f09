/-
  Contracts of style.Of and of the document's Of: what a length comes to.
-/
import Derived.Test.YtcgblbbadbkdgaaStyle
import Derived.Test.YtcgblbbadbkdgaaMulDiv
namespace Go.Proofs.Ytcgblbbadbkdgaa
open Go.RowKit

def ofN (l : LenV) (x : Int) : Int := if l.k = 1 then cutI l.n else if l.k = 2 then cutI (qI x l.n 10000) else 0
def ofAuto (l : LenV) : Bool := if l.k = 1 then false else if l.k = 2 then false else true
def ofFar (l : LenV) (x : Int) : Bool := if l.k = 1 then farI l.n else if l.k = 2 then farI (qI x l.n 10000) else false
/-- The contract of Of, the program's or the document's. -/
def OfSays (f : FuncId) (l : LenV) (x : Int) : Prop :=
  ∀ w, Calls Try.prog f #[lenV l, .int .i64 x] w fun e w' => e = .returned (.tuple #[.int .i64 (ofN l x), .bool (ofAuto l), .bool (ofFar l x)]) ∧ Below w.heap.size w w'

theorem of4_any (l : LenV) (x : Int) (hl : I64 l.n) (hx : I64 x) : OfSays 31 l x := fun w => by
  obtain ⟨k, n⟩ := l
  unfold ofN ofAuto ofFar
  simp only at hl ⊢
  have hb := Lib.hid ((Below.refl w.heap.size w).alloc (Nat.le_refl _) (.cells #[.int .u8 k, .int .i64 n] 23))
  by_cases h1 : k = 1
  · subst h1
    simp only [if_true]
    have hc := fun w => cut_any n w
    go_enter Try.func31, Try.ntmps31
    go_wp2_with (go_at_call 48; refine (hc _).mono ?_; rintro e w1 ⟨rfl, rfl⟩)
    go_ret3
    exact ⟨rfl, hb.out⟩
  have h1' : (k == 1) = false := by simpa using h1
  rw [if_neg h1, if_neg h1, if_neg h1]
  by_cases h2 : k = 2
  · subst h2
    simp only [if_true]
    have hc := fun w => part_any x n hx.1 hx.2 hl.1 hl.2 w
    go_enter Try.func31, Try.ntmps31
    go_wp2_with (go_at_call 49; refine (hc _).mono ?_; rintro e w1 ⟨rfl, m, rfl⟩)
    go_ret3
    exact ⟨rfl, bl_drewN hb.out _⟩
  have h2' : (k == 2) = false := by simpa using h2
  rw [if_neg h2, if_neg h2, if_neg h2]
  clear h1 h2
  go_enter Try.func31, Try.ntmps31
  go_wp2
  go_ret3
  exact ⟨rfl, hb.out⟩

def topI (l : LenV) (x : Int) : Int := if ofAuto l then 1099511627776 else ofN l x
def sizeN (l a b : LenV) (x : Int) : Int := if ofAuto l then 0 else withinI (ofN l x) (ofN a x) (topI b x)
def sizeFar (l a b : LenV) (x : Int) : Bool := if ofAuto l then false else ofFar l x || ofFar a x || ofFar b x
def SizeSays (f : FuncId) (l a b : LenV) (x : Int) : Prop :=
  ∀ w, Calls Try.prog f #[lenV l, lenV a, lenV b, .int .i64 x] w fun e w' => e = .returned (.tuple #[.int .i64 (sizeN l a b x), .bool (ofAuto l), .bool (sizeFar l a b x)]) ∧ Below w.heap.size w w'

/-- Three boxes of two cells. -/
theorem boxes3 (w : World) (x1 x2 x3 : List Value) (t1 t2 t3 : TypeId) (W : World)
    (h : ((w.alloc (.cells x1.toArray t1)).alloc (.cells x2.toArray t2)).alloc (.cells x3.toArray t3) = W) :
    Box W w.heap.size x1 ∧ Box W (w.heap.size + 1) x2 ∧ Box W (w.heap.size + 1 + 1) x3 ∧ Below w.heap.size w W := by
  subst h
  refine ⟨((Box.new w x1 _).alloc _).alloc _, ?_, ?_, (((Below.refl _ _).alloc (Nat.le_refl _) _).alloc (by simp) _).alloc (by simp; omega) _⟩
  · simpa using (Box.new (w.alloc (.cells x1.toArray t1)) x2 t2).alloc _
  · simpa using Box.new ((w.alloc (.cells x1.toArray t1)).alloc (.cells x2.toArray t2)) x3 t3

/-- The three lengths lie in boxes of their own. -/
structure LBoxes (W : World) (l a b : LenV) (w : World) : Prop where
  b1 : Box w W.heap.size (lenE l)
  b2 : Box w (W.heap.size + 1) (lenE a)
  b3 : Box w (W.heap.size + 1 + 1) (lenE b)
  hb : Below W.heap.size W w
theorem LBoxes.below {W : World} {l a b : LenV} {w w' : World} (h : LBoxes W l a b w) (hb : Below w.heap.size w w') : LBoxes W l a b w' :=
  ⟨h.b1.below hb, h.b2.below hb, h.b3.below hb, h.hb.trans (hb.mono h.hb.size)⟩
theorem LBoxes.cells {W : World} {l a b : LenV} {w : World} (h : LBoxes W l a b w) :
    (w.cell? ⟨W.heap.size, 0, none⟩ = some (.int .u8 l.k) ∧ w.cell? ⟨W.heap.size, 1, none⟩ = some (.int .i64 l.n)) ∧
    (w.cell? ⟨W.heap.size + 1, 0, none⟩ = some (.int .u8 a.k) ∧ w.cell? ⟨W.heap.size + 1, 1, none⟩ = some (.int .i64 a.n)) ∧
    (w.cell? ⟨W.heap.size + 1 + 1, 0, none⟩ = some (.int .u8 b.k) ∧ w.cell? ⟨W.heap.size + 1 + 1, 1, none⟩ = some (.int .i64 b.n)) :=
  ⟨⟨h.b1.cell 0 _ rfl, h.b1.cell 1 _ rfl⟩, ⟨h.b2.cell 0 _ rfl, h.b2.cell 1 _ rfl⟩, h.b3.cell 0 _ rfl, h.b3.cell 1 _ rfl⟩

set_option maxRecDepth 100000 in
theorem size_of (l a b : LenV) (x : Int) (h1 : OfSays 31 l x) (h2 : OfSays 31 a x) (h3 : OfSays 31 b x) : SizeSays 32 l a b x := fun w => by
  unfold sizeN sizeFar topI
  unfold OfSays at h1 h2 h3
  generalize ofN l x = n1 at *
  generalize ofN a x = n2 at *
  generalize ofN b x = n3 at *
  generalize ofAuto l = z1 at *
  generalize ofAuto a = z2 at *
  generalize ofAuto b = z3 at *
  generalize ofFar l x = f1 at *
  generalize ofFar a x = f2 at *
  generalize ofFar b x = f3 at *
  cases z1
  · simp only [Bool.false_eq_true, if_false]
    go_enter Try.func32, Try.ntmps32
    go_wp2_with fail
    generalize hW : World.alloc (World.alloc (World.alloc w _) _) _ = W
    obtain ⟨b1, b2, b3, hb⟩ := boxes3 w (lenE l) (lenE a) (lenE b) _ _ _ W hW
    clear hW
    have hb := Lib.hid hb
    refine (h1 _).mono ?_; rintro e w1 ⟨rfl, hb1⟩
    have b2 := b2.below hb1
    have b3 := b3.below hb1
    have d0 := b2.cell 0 _ rfl
    have d1 := b2.cell 1 _ rfl
    have hb2 := Lib.hid (hb.out.trans (hb1.mono hb.out.size))
    clear b1 hb hb1
    go_wp2_with fail
    refine (h2 _).mono ?_; rintro e w2 ⟨rfl, hb1⟩
    have b3 := b3.below hb1
    have e0 := b3.cell 0 _ rfl
    have e1 := b3.cell 1 _ rfl
    have hb := Lib.hid (hb2.out.trans (hb1.mono hb2.out.size))
    clear b2 hb1 hb2 d0 d1
    go_wp2_with fail
    refine (h3 _).mono ?_; rintro e w3 ⟨rfl, hb1⟩
    have hb2 := Lib.hid (hb.out.trans (hb1.mono hb.out.size))
    clear b3 hb1 hb e0 e1
    cases z3
    · have hc := fun w => within_any n1 n2 n3 w
      cases f1
      · cases f2
        · go_wp2_with (go_at_call 50; refine (hc _).mono ?_; rintro e w4 ⟨rfl, rfl⟩)
          go_ret3
          exact ⟨rfl, hb2.out⟩
        · go_wp2_with (go_at_call 50; refine (hc _).mono ?_; rintro e w4 ⟨rfl, rfl⟩)
          go_ret3
          exact ⟨rfl, hb2.out⟩
      · go_wp2_with (go_at_call 50; refine (hc _).mono ?_; rintro e w4 ⟨rfl, rfl⟩)
        go_ret3
        exact ⟨rfl, hb2.out⟩
    · have hc := fun w => within_any n1 n2 1099511627776 w
      cases f1
      · cases f2
        · go_wp2_with (go_at_call 50; refine (hc _).mono ?_; rintro e w4 ⟨rfl, rfl⟩)
          go_ret3
          exact ⟨rfl, hb2.out⟩
        · go_wp2_with (go_at_call 50; refine (hc _).mono ?_; rintro e w4 ⟨rfl, rfl⟩)
          go_ret3
          exact ⟨rfl, hb2.out⟩
      · go_wp2_with (go_at_call 50; refine (hc _).mono ?_; rintro e w4 ⟨rfl, rfl⟩)
        go_ret3
        exact ⟨rfl, hb2.out⟩
  · simp only [if_true]
    go_enter Try.func32, Try.ntmps32
    go_wp2_with fail
    generalize hW : World.alloc (World.alloc (World.alloc w _) _) _ = W
    obtain ⟨b1, b2, b3, hb⟩ := boxes3 w (lenE l) (lenE a) (lenE b) _ _ _ W hW
    clear hW b1 b2 b3
    have hb := Lib.hid hb
    refine (h1 _).mono ?_; rintro e w1 ⟨rfl, hb1⟩
    have hb2 := Lib.hid (hb.out.trans (hb1.mono hb.out.size))
    clear hb hb1
    go_wp2_with fail
    go_ret3
    exact ⟨rfl, hb2.out⟩
end Go.Proofs.Ytcgblbbadbkdgaa
