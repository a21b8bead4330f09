/-
  What preorder says: who is the first child; what is wrong with a node, told by the list of nodes that may be its parent.
-/
import Derived.Test.YtcgblbbadbkdgaaTree2
namespace Go.Proofs.Ytcgblbbadbkdgaa
open Go.RowKit
set_option linter.unusedVariables false

theorem nodeI_at {ns : List NodeV} {i : Nat} {x : NodeV} (h : ns[i]? = some x) : nodeI ns i = if preB ns i x.p = false then 6
    else if aloneI x.s (dep ns i) ≠ 0 then aloneI x.s (dep ns i)
    else if i = 0 then (if (x.s.kind != 1 || looseB x.s) then 6 else 0)
    else if kinB ns x.p.toNat i x.s then 0 else 6 := by unfold nodeI; rw [h]
theorem nodeI_pre {ns : List NodeV} {i : Nat} {x : NodeV} (h : ns[i]? = some x) (h0 : nodeI ns i = 0) : preB ns i x.p = true := by
  rw [nodeI_at h] at h0
  split at h0
  · cases h0
  · rename_i hh
    simpa using hh
theorem nodeI_alone {ns : List NodeV} {i : Nat} {x : NodeV} (h : ns[i]? = some x) (h0 : nodeI ns i = 0) : aloneI x.s (dep ns i) = 0 := by
  rw [nodeI_at h] at h0
  split at h0
  · cases h0
  · split at h0
    · exact h0
    · rename_i hh
      simpa using hh
theorem alone_right {s : Style} {d : Int} (h : aloneI s d = 0) : rightB s = true ∧ s.un ≤ 65536 ∧ d ≤ 512 := by
  unfold aloneI at h
  split at h
  · cases h
  · split at h
    · cases h
    · split at h
      · exact ⟨by assumption, by omega, by omega⟩
      · cases h
theorem right_kind {s : Style} (h : rightB s = true) : s.kind = 1 ∨ s.kind = 2 ∨ s.kind = 3 := by
  unfold rightB at h
  split at h
  · omega
  · split at h
    · omega
    · cases h
theorem preB_pos {ns : List NodeV} {i : Nat} {x : NodeV} (h : ns[i]? = some x) (hi : i ≠ 0) (hp : preB ns i x.p = true) : ∃ c : Nat, x.p = (c : Int) ∧ c < i ∧ c ∈ chain ns (i - 1) ∧ parI ns i = (c : Int) := by
  unfold preB at hp
  rw [if_neg hi] at hp
  simp only [Bool.and_eq_true, decide_eq_true_eq, List.contains_iff_mem] at hp
  have := chain_le ns (i - 1) _ hp.2
  refine ⟨x.p.toNat, by omega, by omega, hp.2, ?_⟩
  rw [parI_at h, if_pos (by omega)]
  omega
/-- Who is in a node's chain has a child there. -/
theorem chain_pred {ns : List NodeV} {c : Nat} : ∀ j, c ∈ chain ns j → c ≠ j → ∃ e, e ∈ chain ns j ∧ parI ns e = (c : Int) ∧ c < e := by
  intro j
  induction j using Nat.strongRecOn with
  | _ j ih =>
    intro h hne
    rcases parI_cases ns j with hp | ⟨p, hp, hlt⟩
    · rw [chain_none hp] at h; simp at h; exact absurd h hne
    · rw [chain_some hp] at h ⊢
      rcases List.mem_cons.mp h with h | h
      · exact absurd h hne
      · by_cases hc : c = p
        · subst hc; exact ⟨j, List.mem_cons_self, hp, hlt⟩
        · obtain ⟨e, he, hpe, hl⟩ := ih p hlt h hc
          exact ⟨e, List.mem_cons_of_mem _ he, hpe, hl⟩
/-- In preorder nothing is between a node and its first child. -/
theorem next_child {ns : List NodeV} {c : Nat} : ∀ j, (∀ k, 0 < k → k ≤ j → ∃ x, ns[k]? = some x ∧ preB ns k x.p = true) → c ∈ chain ns j → c < j → parI ns (c + 1) = (c : Int) := by
  intro j
  induction j using Nat.strongRecOn with
  | _ j ih =>
    intro hpre h hlt
    obtain ⟨e, he, hpe, hl⟩ := chain_pred j h (by omega)
    have hej := chain_le ns j e he
    by_cases hc : e = c + 1
    · rw [← hc]; exact hpe
    · obtain ⟨x, hx, hpx⟩ := hpre e (by omega) hej
      obtain ⟨c2, _, _, hm, hp2⟩ := preB_pos hx (by omega) hpx
      rw [hpe] at hp2
      have : c2 = c := by omega
      subst this
      exact ih (e - 1) (by omega) (fun k h1 h2 => hpre k h1 (by omega)) hm (by omega)

theorem node0 {ns : List NodeV} {x : NodeV} (h : ns[0]? = some x) : nodeI ns 0 = firstNodeI x := by
  rw [nodeI_at h, dep_none (parI_zero ns)]
  unfold preB firstNodeI
  simp only [if_pos]
  by_cases hp : x.p = -1
  · simp [hp]
  · simp [hp]
theorem node_out {ns : List NodeV} {i : Nat} {x : NodeV} (h : ns[i]? = some x) (hi : i ≠ 0) (hc : ∀ c ∈ chain ns (i - 1), x.p ≠ (c : Int)) : nodeI ns i = 6 := by
  rw [nodeI_at h, if_pos]
  rw [← Bool.not_eq_true]
  intro hp
  obtain ⟨c, h1, _, h2, _⟩ := preB_pos h hi hp
  exact hc c h2 h1
theorem node_in {ns : List NodeV} {i c : Nat} {r pre : List Nat} {x y z : NodeV} (h : ns[i]? = some x) (hi : i ≠ 0) (hall : ∀ j, j < i → nodeI ns j = 0) (hc : chain ns (i - 1) = pre ++ c :: r) (hp : x.p = (c : Int)) (hy : ns[c]? = some y) (hz : ns[c + 1]? = some z) :
    nodeI ns i = childI x.s (((c :: r).length + 1 : Nat) : Int) y.s.kind z.s ∧ chain ns i = i :: c :: r ∧ c < i := by
  have hmem : c ∈ chain ns (i - 1) := by rw [hc]; simp
  have hcl := chain_le ns (i - 1) c hmem
  have hpar : parI ns i = (c : Int) := by rw [parI_at h, if_pos (by omega)]; exact hp
  have hsuf := chain_suffix ns (i - 1) pre r c hc
  have hch : chain ns i = i :: c :: r := by rw [chain_some hpar, hsuf]
  refine ⟨?_, hch, by omega⟩
  have hlen : i < ns.length := by
    rw [List.getElem?_eq_some_iff] at h
    exact h.1
  have hpre : preB ns i x.p = true := by
    unfold preB
    rw [if_neg hi, hp]
    simp [hmem]
  rw [nodeI_at h, if_neg (by rw [hpre]; simp), if_neg hi]
  have hdep : dep ns i = (c :: r).length + 1 := by unfold dep; rw [hch]; rfl
  rw [hdep]
  unfold childI
  have hk : kinB ns x.p.toNat i x.s = fitsB x.s y.s.kind z.s := by
    have hpn : x.p.toNat = c := by omega
    have hyk := right_kind (alone_right (nodeI_alone hy (hall c (by omega)))).1
    unfold kinB fitsB
    rw [hpn, kindAt_at hy]
    rcases hyk with e | e | e
    · rw [e]
      simp only [show ¬ (1 : Int) = 3 by omega, show ¬ (1 : Int) = 2 by omega, if_false, if_true]
      by_cases hci : c = i - 1
      · have hz2 : z = x := by
          have : c + 1 = i := by omega
          rw [this, h] at hz
          exact (Option.some.inj hz).symm
        have hf : firstI ns c i = -1 := by
          unfold firstI
          rw [show i - (c + 1) = 0 by omega]
          rfl
        rw [hf, hz2, if_neg (by omega)]
        simp
      · have hn := next_child (i - 1) (fun k h1 h2 => by
          obtain ⟨xk, hxk⟩ : ∃ xk, ns[k]? = some xk := ⟨_, List.getElem?_eq_getElem (by omega)⟩
          exact ⟨xk, hxk, nodeI_pre hxk (hall k (by omega))⟩) hmem (by omega)
        have hf : firstI ns c i = ((c + 1 : Nat) : Int) := by
          unfold firstI
          obtain ⟨m, hm⟩ : ∃ m, i - (c + 1) = m + 1 := ⟨i - (c + 1) - 1, by omega⟩
          rw [hm, List.range'_succ, List.find?_cons, hn]
          simp
        rw [hf, if_pos (by omega), Int.toNat_natCast, kindAt_at hz]
        unfold textK
        exact Bool.beq_comm
    · rw [e]
      simp
    · rw [e]
      simp
  rw [hk]

theorem check_ok {ns : List NodeV} {av : List Int} {view : Int} (h0 : wholeI ns.length av.length av view = 0) (h : ∀ j, j < ns.length → nodeI ns j = 0) : checkI ns av view = (0, 0) := by
  have : wrongN ns = none := by
    unfold wrongN
    rw [List.find?_eq_none]
    intro j hj
    simp [h j (List.mem_range.mp hj)]
  unfold checkI
  rw [if_neg (by omega), this]
theorem check_at {ns : List NodeV} {av : List Int} {view : Int} {i : Nat} (h0 : wholeI ns.length av.length av view = 0) (hi : i < ns.length) (h : ∀ j, j < i → nodeI ns j = 0) (hne : nodeI ns i ≠ 0) : checkI ns av view = (i, nodeI ns i) := by
  have : wrongN ns = some i := by
    unfold wrongN
    rw [List.find?_range_eq_some]
    refine ⟨by simpa using hne, List.mem_range.mpr hi, fun j hj => by simp [h j hj]⟩
  unfold checkI
  rw [if_neg (by omega), this]
theorem check_whole {ns : List NodeV} {av : List Int} {view : Int} (h0 : wholeI ns.length av.length av view ≠ 0) : checkI ns av view = (0, wholeI ns.length av.length av view) := by
  unfold checkI
  rw [if_pos h0]
end Go.Proofs.Ytcgblbbadbkdgaa
