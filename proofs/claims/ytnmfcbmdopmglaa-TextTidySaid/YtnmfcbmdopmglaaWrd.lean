/-
  Words as values, how wide they are, and what the words of units are: pure.
-/
import Derived.Test.YtnmfcbmdopmglaaSep
import Derived.Test.YtnmfcbmdopmglaaHolds
import Derived.Test.YtnmfcbmdopmglaaAuOf
namespace Go.Proofs.Ytnmfcbmdopmglaa
open Go.RowKit
set_option linter.unusedVariables false

/-- A unit's advance. -/
def adv (A : List Int) (c : Int) : Int := A.getD c.toNat 0
def advs (A u : List Int) : List Int := u.map (adv A)
def wideS (A u : List Int) : Int := (advs A u).sum
theorem adv_i64 {A : List Int} (h : ∀ z ∈ A, I64 z) (c : Int) : I64 (adv A c) := by
  unfold adv
  rw [List.getD_eq_getElem?_getD]
  cases e : A[c.toNat]? with
  | none => simp [I64]
  | some z => exact h z (List.mem_of_getElem? e)
theorem advs_i64 {A : List Int} (h : ∀ z ∈ A, I64 z) (u : List Int) : ∀ z ∈ advs A u, I64 z := by
  intro z hz
  obtain ⟨c, _, rfl⟩ := List.mem_map.1 hz
  exact adv_i64 h c
/-- A word: its beginning, its end, how wide, its gap, its forced ends. -/
structure Wrd where
  s : Int
  t : Int
  w : Int
  g : Int
  e : Int
deriving DecidableEq
def wrdE (x : Wrd) : List Value := [.int .i64 x.s, .int .i64 x.t, .int .i64 x.w, .int .i64 x.g, .int .i64 x.e]
theorem wrdE_len (x : Wrd) : (wrdE x).length = 5 := rfl
theorem wrdE_one (x : Wrd) : ∀ u ∈ wrdE x, u.oneCell' = true := by intro u hu; simp [wrdE] at hu; rcases hu with rfl | rfl | rfl | rfl | rfl <;> rfl
/-- As a value of its own. -/
abbrev wrdV (x : Wrd) : Value := .agg #[.int .i64 x.s, .int .i64 x.t, .int .i64 x.w, .int .i64 x.g, .int .i64 x.e]
def WrdOk (x : Wrd) : Prop := I64 x.s ∧ I64 x.t ∧ I64 x.w ∧ I64 x.g ∧ I64 x.e

/-- The gap of a word, and whether it is beyond. -/
def gapOf (A : List Int) (first : Bool) (p : Plc) : Int := if first = false ∧ p.e = 0 then cutI (adv A 32) else 0
def gapF (A : List Int) (first : Bool) (p : Plc) : Bool := decide (first = false ∧ p.e = 0) && farI (adv A 32)
def wrdOf (A u : List Int) (first : Bool) (p : Plc) : Wrd := ⟨p.s, p.t, cutI (wideS A (cut u p.s p.t)), gapOf A first p, p.e⟩
def farOf (A u : List Int) (first : Bool) (p : Plc) : Bool := farI (wideS A (cut u p.s p.t)) || gapF A first p
def wrds (A u : List Int) : List Plc → List Wrd
  | [] => []
  | p :: ps => wrdOf A u true p :: ps.map (wrdOf A u false)
def fars (A u : List Int) : List Plc → Bool
  | [] => false
  | p :: ps => farOf A u true p || ps.any (farOf A u false)
theorem wrds_snoc (A u : List Int) (ps : List Plc) (p : Plc) : wrds A u (ps ++ [p]) = wrds A u ps ++ [wrdOf A u ps.isEmpty p] := by
  cases ps <;> simp [wrds]
theorem fars_snoc (A u : List Int) (ps : List Plc) (p : Plc) : fars A u (ps ++ [p]) = (fars A u ps || farOf A u ps.isEmpty p) := by
  cases ps <;> simp [fars, Bool.or_assoc]
theorem wrds_len (A u : List Int) (ps : List Plc) : (wrds A u ps).length = ps.length := by cases ps <;> simp [wrds]
theorem cut_i64 (x : Int) : I64 (cutI x) := by unfold I64 cutI; split <;> (try split) <;> omega
end Go.Proofs.Ytnmfcbmdopmglaa
