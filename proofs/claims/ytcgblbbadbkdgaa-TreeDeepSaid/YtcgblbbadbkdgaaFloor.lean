/-
  Plain arithmetic: the floor of a product's quotient. No program.
-/
import Derived.Test.YtcgblbbadbkdgaaCore
namespace Go.Proofs.Ytcgblbbadbkdgaa

/-- The floor of a product's quotient. -/
def qI (a b c : Int) : Int := if 0 < c then a * b / c else -(a * b) / -c

/-- The same out of the sizes and the sign. -/
def qS (s : Bool) (Q R : Nat) : Int := if s then -(Q : Int) - (if 0 < R then 1 else 0) else Q

/-- The floor of a quotient of whole numbers by a size, out of the size of the dividend. -/
theorem floor_neg (P C : Nat) (hC : 0 < C) : -(P : Int) / (C : Int) = -((P / C : Nat) : Int) - (if 0 < P % C then 1 else 0) := by
  have hd := Nat.div_add_mod P C
  have hm := Nat.mod_lt P hC
  have hd' : (C : Int) * ((P / C : Nat) : Int) + ((P % C : Nat) : Int) = (P : Int) := by rw [← Int.natCast_mul, ← Int.natCast_add, hd]
  have key : ∀ q r : Int, r + (C : Int) * q = -(P : Int) → 0 ≤ r → r < C → -(P : Int) / (C : Int) = q := fun q r h1 h2 h3 => (Int.ediv_emod_unique (by omega)).2 ⟨h1, h2, h3⟩ |>.1
  by_cases h : 0 < P % C
  · rw [if_pos h]
    refine key _ ((C : Int) - ((P % C : Nat) : Int)) ?_ (by omega) (by omega)
    rw [Int.mul_sub, Int.mul_neg]; omega
  · rw [if_neg h]
    refine key _ 0 ?_ (by omega) (by omega)
    rw [Int.sub_zero, Int.mul_neg]; omega
end Go.Proofs.Ytcgblbbadbkdgaa
