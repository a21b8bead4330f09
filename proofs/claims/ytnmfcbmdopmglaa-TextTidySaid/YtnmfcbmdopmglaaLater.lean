/-
  A region that draws its order, whose own operations only read and whose calls make memory but change nothing that was there: one walk in the text's order serves every order. (Derived/Deep/Quiet's theorem at another class of worlds: those that come later.)
-/
import Derived.Test.YtnmfcbmdopmglaaBox
import Derived.Deep.QuietTactic
namespace Go.Proofs.Ytnmfcbmdopmglaa
open Go.RowKit

/-- A world later than V: nothing of V has changed. -/
structure Later (V : World) where
  w : World
  h : Below V.heap.size V w

instance (V : World) : Nonempty (Later V) := ⟨⟨V, Below.refl _ _⟩⟩

theorem wp_region_later {P : Program} (V : World) {id : Nat} {Q : Exit → Act → World → Prop} {a : Act} {w : World} {l : List Oper} (hm : P.follows .mixedOrders = true) (hB : Region.lexB .any l.toArray = true) (hw : Below V.heap.size V w)
    (h : wpQuiet P l.toArray (fun w' => ∃ x : Later V, w' = x.w) (fun a' => ∀ w', (∃ x : Later V, w' = x.w) → Q .normal a' w') l a) : (Code.region id l.toArray true).wp P Q a w :=
  wp_region_quiet (C := fun w' => ∃ x : Later V, w' = x.w) hm hB ⟨⟨_, hw.drew⟩, rfl⟩ (by simpa using h)

theorem Later.call {P : Program} {f : FuncId} {args : Array Value} {V : World} (x : Later V) {v : Value} (h : Calls P f args x.w fun e w' => e = .returned v ∧ Below x.w.heap.size x.w w') :
    Calls P f args x.w fun e w'' => e = .returned v ∧ ∃ y : Later V, w'' = y.w :=
  h.mono fun _ w' ⟨he, hb⟩ => ⟨he, ⟨w', x.h.trans (hb.mono x.h.size)⟩, rfl⟩
theorem Later.callQt {P : Program} {f : FuncId} {args : Array Value} {V : World} (x : Later V) {v : Value} (h : Calls P f args x.w fun e w' => e = .returned v ∧ Qt x.w.heap.size x.w w') :
    Calls P f args x.w fun e w'' => e = .returned v ∧ ∃ y : Later V, w'' = y.w := x.call (h.mono fun _ _ ⟨he, hb⟩ => ⟨he, hb.1⟩)
theorem Later.callSame {P : Program} {f : FuncId} {args : Array Value} {V : World} (x : Later V) {v : Value} (h : Calls P f args x.w fun e w' => e = .returned v ∧ x.w = w') :
    Calls P f args x.w fun e w'' => e = .returned v ∧ ∃ y : Later V, w'' = y.w := h.mono fun _ _ ⟨he, hb⟩ => ⟨he, x, hb.symm⟩

theorem Later.cell {V : World} {p : Addr} {v : Value} (hp : p.block < V.heap.size) (h : V.cell? p = some v) : ∀ x : Later V, x.w.cell? p = some v := fun x => (x.h.cell hp).trans h
theorem Later.four {V : World} {g : Nat} {a b c d : Value} (h : Box V g [a, b, c, d]) :
    (∀ x : Later V, x.w.cell? ⟨g, 0, none⟩ = some a) ∧ (∀ x : Later V, x.w.cell? ⟨g, 1, none⟩ = some b) ∧ (∀ x : Later V, x.w.cell? ⟨g, 2, none⟩ = some c) ∧ (∀ x : Later V, x.w.cell? ⟨g, 3, none⟩ = some d) :=
  ⟨Later.cell h.lt h.four.1, Later.cell h.lt h.four.2.1, Later.cell h.lt h.four.2.2.1, Later.cell h.lt h.four.2.2.2⟩
end Go.Proofs.Ytnmfcbmdopmglaa
