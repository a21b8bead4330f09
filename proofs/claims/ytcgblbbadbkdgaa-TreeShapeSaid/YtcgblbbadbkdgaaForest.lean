/-
  Parents, chains of ancestors, depths, children, the last ones below, roots, and what is wrong with a node: by the chapter's words, of rows of nodes.
-/
import Derived.Test.YtcgblbbadbkdgaaNode
namespace Go.Proofs.Ytcgblbbadbkdgaa
open Go.RowKit

/-- A node's parent; -1: it has none. -/
def parI (ns : List NodeV) (i : Nat) : Int := match ns[i]? with
  | some x => if 0 ≤ x.p ∧ x.p < (i : Int) then x.p else -1
  | none => -1
theorem parI_at {ns : List NodeV} {i : Nat} {x : NodeV} (h : ns[i]? = some x) : parI ns i = if 0 ≤ x.p ∧ x.p < (i : Int) then x.p else -1 := by unfold parI; rw [h]
theorem parI_ge (ns : List NodeV) (i : Nat) : -1 ≤ parI ns i := by
  unfold parI
  split
  · split <;> omega
  · omega
theorem parI_lt (ns : List NodeV) (i : Nat) : parI ns i < (i : Int) := by
  unfold parI
  split
  · split <;> omega
  · omega
theorem parI_zero (ns : List NodeV) : parI ns 0 = -1 := by have := parI_ge ns 0; have := parI_lt ns 0; omega
theorem parI_cases (ns : List NodeV) (i : Nat) : parI ns i = -1 ∨ ∃ p : Nat, parI ns i = (p : Int) ∧ p < i := by
  have h1 := parI_ge ns i
  have h2 := parI_lt ns i
  rcases Int.lt_or_le (parI ns i) 0 with h | h
  · left; omega
  · right; exact ⟨(parI ns i).toNat, by omega, by omega⟩

/-- A node, its parent, that one's parent, and so on. -/
def chainF (ns : List NodeV) : Nat → Nat → List Nat
  | 0, i => [i]
  | f + 1, i => if 0 ≤ parI ns i then i :: chainF ns f (parI ns i).toNat else [i]
def chain (ns : List NodeV) (i : Nat) : List Nat := chainF ns i i
theorem chainF_eq (ns : List NodeV) : ∀ (f i : Nat), i ≤ f → chainF ns f i = chainF ns i i := by
  intro f
  induction f using Nat.strongRecOn with
  | _ f ih =>
    intro i hi
    match f, i, hi with
    | 0, 0, _ => rfl
    | f + 1, 0, _ =>
      have : ¬ (0 : Int) ≤ parI ns 0 := by rw [parI_zero]; omega
      simp only [chainF, if_neg this]
    | f + 1, i + 1, hi =>
      simp only [chainF]
      split
      · have h := parI_lt ns (i + 1)
        rw [ih f (by omega) _ (by omega), ih i (by omega) _ (by omega)]
      · rfl
theorem chain_none {ns : List NodeV} {i : Nat} (h : parI ns i = -1) : chain ns i = [i] := by
  unfold chain
  cases i with
  | zero => rfl
  | succ i => simp only [chainF]; rw [if_neg (by omega)]
theorem chain_some {ns : List NodeV} {i p : Nat} (h : parI ns i = (p : Int)) : chain ns i = i :: chain ns p := by
  have h2 := parI_lt ns i
  unfold chain
  cases i with
  | zero => omega
  | succ i =>
    simp only [chainF]
    rw [if_pos (by omega), h]
    simp only [Int.toNat_natCast]
    rw [chainF_eq ns i p (by omega)]
theorem chain_head (ns : List NodeV) (i : Nat) : ∃ r, chain ns i = i :: r := by
  rcases parI_cases ns i with h | ⟨p, h, _⟩
  · exact ⟨[], chain_none h⟩
  · exact ⟨_, chain_some h⟩
theorem chain_le (ns : List NodeV) : ∀ i, ∀ k ∈ chain ns i, k ≤ i := by
  intro i
  induction i using Nat.strongRecOn with
  | _ i ih =>
    intro k hk
    rcases parI_cases ns i with h | ⟨p, h, hp⟩
    · rw [chain_none h] at hk; simp at hk; omega
    · rw [chain_some h] at hk
      rcases List.mem_cons.mp hk with h2 | h2
      · omega
      · have := ih p hp k h2; omega
theorem chain_suffix (ns : List NodeV) : ∀ (i : Nat) (pre r : List Nat) (k : Nat), chain ns i = pre ++ k :: r → k :: r = chain ns k := by
  intro i
  induction i using Nat.strongRecOn with
  | _ i ih =>
    intro pre r k e
    rcases parI_cases ns i with h | ⟨p, h, hp⟩
    · rw [chain_none h] at e
      cases pre with
      | nil => simp at e; obtain ⟨rfl, rfl⟩ := e; rw [chain_none h]
      | cons a pre => simp at e
    · have e' := e
      rw [chain_some h] at e
      cases pre with
      | nil => simp at e; obtain ⟨rfl, rfl⟩ := e; rw [chain_some h]
      | cons a pre =>
        simp at e
        exact ih p hp pre r k e.2
theorem chain_mem {ns : List NodeV} {i k : Nat} (h : k ∈ chain ns i) : ∃ pre, chain ns i = pre ++ chain ns k := by
  obtain ⟨pre, r, e⟩ := List.append_of_mem h
  exact ⟨pre, by rw [e, chain_suffix ns i pre r k e]⟩
theorem chain_trans {ns : List NodeV} {i j k : Nat} (h : j ∈ chain ns i) (h2 : k ∈ chain ns j) : k ∈ chain ns i := by
  obtain ⟨pre, e⟩ := chain_mem h
  rw [e]; exact List.mem_append_right _ h2

/-- How deep a node is. -/
def dep (ns : List NodeV) (i : Nat) : Nat := (chain ns i).length
theorem dep_none {ns : List NodeV} {i : Nat} (h : parI ns i = -1) : dep ns i = 1 := by unfold dep; rw [chain_none h]; rfl
theorem dep_some {ns : List NodeV} {i p : Nat} (h : parI ns i = (p : Int)) : dep ns i = dep ns p + 1 := by unfold dep; rw [chain_some h]; rfl
theorem dep_le (ns : List NodeV) : ∀ i, dep ns i ≤ i + 1 := by
  intro i
  induction i using Nat.strongRecOn with
  | _ i ih =>
    rcases parI_cases ns i with h | ⟨p, h, hp⟩
    · rw [dep_none h]; omega
    · rw [dep_some h]; have := ih p hp; omega
def kidsN (ns : List NodeV) (i m : Nat) : List Int := ((List.range m).filter (fun k => parI ns k == (i : Int))).map (fun (k : Nat) => (k : Int))
/-- The last one of a node and those below it, of the first m ones. -/
def lastN (ns : List NodeV) (i m : Nat) : Nat := (List.range m).foldl (fun q k => if decide (i < k) && (chain ns k).contains i then k else q) i

def kindAt (ns : List NodeV) (i : Nat) : Int := match ns[i]? with
  | some x => x.s.kind
  | none => 0
theorem kindAt_at {ns : List NodeV} {i : Nat} {x : NodeV} (h : ns[i]? = some x) : kindAt ns i = x.s.kind := by unfold kindAt; rw [h]
/-- Is a node that there is a root? -/
def rootB (ns : List NodeV) (i : Nat) : Bool := match ns[i]? with
  | some x => !textK x.s && (i == 0 || x.s.kind == 2 || x.s.flow || x.s.float != 0 || (parI ns i != -1 && kindAt ns (parI ns i).toNat == 2))
  | none => false

/-- The first child of a node ahead of another one; -1: there is none. -/
def firstI (ns : List NodeV) (p i : Nat) : Int := match (List.range' (p + 1) (i - (p + 1))).find? (fun k => parI ns k == (p : Int)) with
  | some k => k
  | none => -1
/-- May a node with the parent p (that there is, and may be one) be its child, by their kinds? -/
def kinB (ns : List NodeV) (p i : Nat) (s : Style) : Bool :=
  if kindAt ns p = 3 then false
  else if kindAt ns p = 2 then !textK s && !looseB s
  else if 0 ≤ firstI ns p i then (kindAt ns (firstI ns p i).toNat == 3) == textK s else true
/-- May the number be a node's parent's, in preorder? -/
def preB (ns : List NodeV) (i : Nat) (p : Int) : Bool := if i = 0 then p == -1 else decide (0 ≤ p) && (chain ns (i - 1)).contains p.toNat
/-- What is wrong with a node. -/
def nodeI (ns : List NodeV) (i : Nat) : Int := match ns[i]? with
  | some x =>
    if preB ns i x.p = false then 6
    else if aloneI x.s (dep ns i) ≠ 0 then aloneI x.s (dep ns i)
    else if i = 0 then (if (x.s.kind != 1 || looseB x.s) then 6 else 0)
    else if kinB ns x.p.toNat i x.s then 0 else 6
  | none => 0
/-- What is wrong with a tree, whichever its nodes are. -/
def wholeI (n m : Nat) (av : List Int) (view : Int) : Int :=
  if 65536 < n ∨ 4096 < m then 7
  else if n = 0 ∨ ¬ (0 ≤ view ∧ view ≤ 1099511627776) then 6
  else if av.all (fun a => decide (0 ≤ a) && decide (a ≤ 1099511627776)) then 0 else 6
/-- The first node that is wrong, and why. -/
def wrongN (ns : List NodeV) : Option Nat := (List.range ns.length).find? fun i => nodeI ns i != 0
def checkI (ns : List NodeV) (av : List Int) (view : Int) : Nat × Int :=
  if wholeI ns.length av.length av view ≠ 0 then (0, wholeI ns.length av.length av view)
  else match wrongN ns with
    | some i => (i, nodeI ns i)
    | none => (0, 0)
end Go.Proofs.Ytcgblbbadbkdgaa
