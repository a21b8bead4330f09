/-
  Contract of the statements' list of a style's lengths: where each of them lies.
-/
import Derived.Test.YtjjaeloamogfdaaStyle
import Derived.StillTailTactics
import Derived.Laws.IdiomArrays
namespace Go.Proofs.Ytjjaeloamogfdaa
open Go.RowKit

def ptrE (g : Nat) (o : Nat) : List Value := [.pointer (some ⟨g, o, none⟩)]
theorem ptrE_len (g : Nat) (o : Nat) : (ptrE g o).length = 1 := rfl
/-- Where the lengths lie in a style. -/
def offs : List Nat := [4, 6, 8, 10, 12, 14, 40, 16, 18, 20, 22]

set_option maxRecDepth 100000 in
theorem lens_any (g : Nat) (w : World) :
    Calls Try.prog 17 #[.pointer (some ⟨g, 0, none⟩)] w fun e w' => ∃ b, e = .returned (.slice (some ⟨b, 0, none⟩) 11 11) ∧ Holds (ptrE g) w' w'.heap.size (some ⟨b, 0, none⟩) offs ∧ Below w.heap.size w w' := by
  go_enter Try.func17, Try.ntmps17
  go_wp2_with fail
  go_still_tail 37, (by kernel_rfl)
  change wpList _ _ _ _ _ w.drew
  have hb0 : Below w.heap.size w w.drew := (Below.refl _ _).drew
  generalize w.drew = w2 at *
  go_wp2_with fail
  go_ret
  exact ⟨_, rfl, Holds.lit (f := ptrE g) w2 offs _, hb0.alloc hb0.size _⟩
end Go.Proofs.Ytjjaeloamogfdaa
