/-
  The style all of which is zero.
-/
import Derived.Test.YtcgblbbadbkdgaaStyle
namespace Go.Proofs.Ytcgblbbadbkdgaa
open Go.RowKit

def style0 : Style := ⟨0, false, 0, 0, ⟨0, 0⟩, ⟨0, 0⟩, ⟨0, 0⟩, ⟨0, 0⟩, ⟨0, 0⟩, ⟨0, 0⟩, ⟨0, 0⟩, ⟨0, 0⟩, ⟨0, 0⟩, ⟨0, 0⟩, 0, 0, 0, 0, 0, 0, 0, 0, 0, 0, false, 0, 0, 0, 0, 0, ⟨0, 0⟩, none, 0, 0⟩
end Go.Proofs.Ytcgblbbadbkdgaa
