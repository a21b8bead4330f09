/-
  A style as cells; when it is right, by the chapter's words.
-/
import Derived.Test.YtnmfcbmdopmglaaSty
import Derived.Test.YtnmfcbmdopmglaaChunk
namespace Go.Proofs.Ytnmfcbmdopmglaa
open Go.RowKit

/-- A style. Of its units: where they lie, how many, and the room. -/
structure Style where
  kind : Int
  flow : Bool
  float : Int
  clear : Int
  w : LenV
  h : LenV
  minW : LenV
  maxW : LenV
  minH : LenV
  maxH : LenV
  m0 : LenV
  m1 : LenV
  m2 : LenV
  m3 : LenV
  b0 : Int
  b1 : Int
  b2 : Int
  b3 : Int
  p0 : Int
  p1 : Int
  p2 : Int
  p3 : Int
  align : Int
  line : Int
  wrap : Bool
  justify : Int
  items : Int
  order : Int
  grow : Int
  shrink : Int
  basis : LenV
  ua : Option Addr
  un : Nat
  uc : Nat

def styE (s : Style) : List Value :=
  [.int .u8 s.kind, .bool s.flow, .int .u8 s.float, .int .u8 s.clear,
   .int .u8 s.w.k, .int .i64 s.w.n, .int .u8 s.h.k, .int .i64 s.h.n, .int .u8 s.minW.k, .int .i64 s.minW.n, .int .u8 s.maxW.k, .int .i64 s.maxW.n, .int .u8 s.minH.k, .int .i64 s.minH.n, .int .u8 s.maxH.k, .int .i64 s.maxH.n,
   .int .u8 s.m0.k, .int .i64 s.m0.n, .int .u8 s.m1.k, .int .i64 s.m1.n, .int .u8 s.m2.k, .int .i64 s.m2.n, .int .u8 s.m3.k, .int .i64 s.m3.n,
   .int .i64 s.b0, .int .i64 s.b1, .int .i64 s.b2, .int .i64 s.b3, .int .i64 s.p0, .int .i64 s.p1, .int .i64 s.p2, .int .i64 s.p3,
   .int .u8 s.align, .int .i64 s.line, .bool s.wrap, .int .u8 s.justify, .int .u8 s.items, .int .i64 s.order, .int .i64 s.grow, .int .i64 s.shrink,
   .int .u8 s.basis.k, .int .i64 s.basis.n, .slice s.ua s.un s.uc]
theorem styE_len (s : Style) : (styE s).length = 43 := rfl
/-- As a value of its own. -/
def styV (s : Style) : Value := .agg (styE s).toArray

/-- Block g holds the style, from its beginning. -/
def AtS (w : World) (g : Nat) (s : Style) : Prop := g < w.heap.size ∧ ∀ i u, (styE s)[i]? = some u → w.cell? ⟨g, i, none⟩ = some u
theorem AtS.below {w w' : World} {g : Nat} {s : Style} (h : AtS w g s) (hb : Below w.heap.size w w') : AtS w' g s :=
  ⟨Nat.lt_of_lt_of_le h.1 hb.size, fun i u hu => (hb.cell (p := ⟨g, i, none⟩) h.1).trans (h.2 i u hu)⟩
theorem AtS.of {w : World} {g : Nat} {s : Style} (h : Box w g (styE s)) : AtS w g s := ⟨h.lt, h.cell⟩
theorem AtS.len {w : World} {g : Nat} {s : Style} (h : AtS w g s) (l : List LenV) (i : Nat) (hi : ∀ j u, (l.flatMap lenE)[j]? = some u → (styE s)[i + j]? = some u) : Holds lenE w w.heap.size (some ⟨g, i, none⟩) l :=
  fun _ => ⟨_, rfl, h.1, fun j u hu => by
    have e : (Addr.add ⟨g, i, none⟩ j) = ⟨g, i + j, none⟩ := by unfold Addr.add; by_cases h : j = 0 <;> simp [h]
    rw [e]; exact h.2 _ _ (hi j u hu)⟩
theorem AtS.nums {w : World} {g : Nat} {s : Style} (h : AtS w g s) (l : List Int) (i : Nat) (hi : ∀ j u, (l.flatMap intE)[j]? = some u → (styE s)[i + j]? = some u) : Holds intE w w.heap.size (some ⟨g, i, none⟩) l :=
  fun _ => ⟨_, rfl, h.1, fun j u hu => by
    have e : (Addr.add ⟨g, i, none⟩ j) = ⟨g, i + j, none⟩ := by unfold Addr.add; by_cases h : j = 0 <;> simp [h]
    rw [e]; exact h.2 _ _ (hi j u hu)⟩

def Style.margins (s : Style) : List LenV := [s.m0, s.m1, s.m2, s.m3]
def Style.borders (s : Style) : List Int := [s.b0, s.b1, s.b2, s.b3]
def Style.paddings (s : Style) : List Int := [s.p0, s.p1, s.p2, s.p3]
theorem AtS.margins {w : World} {g : Nat} {s : Style} (h : AtS w g s) : Holds lenE w w.heap.size (some ⟨g, 16, none⟩) s.margins :=
  h.len _ 16 fun j u hu => by
    simp only [Style.margins, List.flatMap_cons, List.flatMap_nil, lenE, List.append_nil, List.cons_append, List.nil_append] at hu
    match j, hu with
    | 0, hu | 1, hu | 2, hu | 3, hu | 4, hu | 5, hu | 6, hu | 7, hu => exact hu
theorem AtS.borders {w : World} {g : Nat} {s : Style} (h : AtS w g s) : Holds intE w w.heap.size (some ⟨g, 24, none⟩) s.borders :=
  h.nums _ 24 fun j u hu => by
    simp only [Style.borders, List.flatMap_cons, List.flatMap_nil, intE, List.append_nil, List.cons_append, List.nil_append] at hu
    match j, hu with
    | 0, hu | 1, hu | 2, hu | 3, hu => exact hu
theorem AtS.paddings {w : World} {g : Nat} {s : Style} (h : AtS w g s) : Holds intE w w.heap.size (some ⟨g, 28, none⟩) s.paddings :=
  h.nums _ 28 fun j u hu => by
    simp only [Style.paddings, List.flatMap_cons, List.flatMap_nil, intE, List.append_nil, List.cons_append, List.nil_append] at hu
    match j, hu with
    | 0, hu | 1, hu | 2, hu | 3, hu => exact hu

def zeroLen (l : LenV) : Bool := l.k == 0 && l.n == 0
/-- What the rules ask, each by itself, in the program's order. -/
def rule (s : Style) : Nat → Bool
  | 0 => decide (s.float ≤ 2)
  | 1 => decide (s.clear ≤ 3)
  | 2 => [s.w, s.minW, s.maxW, s.basis].all wideB
  | 3 => [s.h, s.minH, s.maxH].all highB
  | 4 => s.margins.all marginB
  | 5 => s.borders.all edgeB
  | 6 => s.paddings.all edgeB
  | 7 => decide (s.align ≤ 2)
  | 8 => [s.justify, s.items].all choiceB
  | 9 => edgeB s.line
  | 10 => betweenB s.order (-1048576) 1048576
  | 11 => [s.grow, s.shrink].all factorB
  | 12 => decide (s.un = 0)
  | 13 => decide (s.un ≤ 65536)
  | 14 => zeroLen s.w && zeroLen s.h && zeroLen s.minW && zeroLen s.maxW && zeroLen s.minH && zeroLen s.maxH && zeroLen s.basis
  | 15 => s.margins.all zeroLen && s.borders.all (· == 0) && s.paddings.all (· == 0)
  | _ => (!s.flow && !s.wrap) && [s.float, s.clear, s.align, s.justify, s.items].all (· == 0) && [s.line, s.order, s.grow, s.shrink].all (· == 0)
def boxB (s : Style) : Bool := (List.range 13).all (rule s)
def textB (s : Style) : Bool := [13, 14, 15, 16].all (rule s)
/-- May the style be? -/
def rightB (s : Style) : Bool := if s.kind = 1 ∨ s.kind = 2 then boxB s else if s.kind = 3 then textB s else false
end Go.Proofs.Ytnmfcbmdopmglaa
