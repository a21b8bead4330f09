/-
  The shape of a right tree: the nodes below a node are those behind it up to its last one, child behind child.
-/
import Derived.Test.YtcgblbbadbkdgaaHeads
import Derived.Test.YtcgblbbadbkdgaaRowInv
namespace Go.Proofs.Ytcgblbbadbkdgaa
open Go.RowKit
set_option linter.unusedVariables false

/-- All nodes stand in preorder. -/
def Pre (ns : List NodeV) : Prop := ∀ k, 0 < k → k < ns.length → ∃ x, ns[k]? = some x ∧ preB ns k x.p = true
theorem pre_of {ns : List NodeV} (h : ∀ j, j < ns.length → nodeI ns j = 0) : Pre ns := fun k h1 h2 => ⟨_, List.getElem?_eq_getElem h2, nodeI_pre (List.getElem?_eq_getElem h2) (h k h2)⟩
theorem pre_par {ns : List NodeV} (h : Pre ns) {k : Nat} (h1 : 0 < k) (h2 : k < ns.length) : ∃ p, parI ns k = (p : Nat) ∧ p < k ∧ p ∈ chain ns (k - 1) := by
  obtain ⟨x, hx, hp⟩ := h k h1 h2
  obtain ⟨c, _, hc, hm, hpar⟩ := preB_pos hx (by omega) hp
  exact ⟨c, hpar, hc, hm⟩
theorem pre_desc {ns : List NodeV} (h : Pre ns) {c k : Nat} (hk : k < ns.length) (hm : c ∈ chain ns k) (hlt : c < k) : c ∈ chain ns (k - 1) := by
  obtain ⟨p, hp, _, hpm⟩ := pre_par h (by omega) hk
  rw [chain_some hp] at hm
  rcases List.mem_cons.mp hm with e | hm
  · omega
  · exact chain_trans hpm hm
theorem pre_between {ns : List NodeV} (h : Pre ns) {c : Nat} : ∀ d k, k < ns.length → c ∈ chain ns k → ∀ m, c ≤ m → m + d = k → c ∈ chain ns m := by
  intro d
  induction d with
  | zero => intro k hk hm m h1 h2; rw [show m = k by omega]; exact hm
  | succ d ih =>
    intro k hk hm m h1 h2
    exact ih (k - 1) (by omega) (pre_desc h hk hm (by omega)) m h1 (by omega)
/-- Who is below a node, or is it. -/
theorem pre_last {ns : List NodeV} (h : Pre ns) {c k : Nat} (hc : c < ns.length) : (k < ns.length ∧ c ∈ chain ns k) ↔ (c ≤ k ∧ k ≤ lastN ns c ns.length) := by
  have hl := lastN_own (ns := ns) hc
  constructor
  · rintro ⟨h1, h2⟩; exact ⟨chain_le ns k c h2, hl.2 k ⟨h1, h2⟩⟩
  · rintro ⟨h1, h2⟩
    have := hl.1.1
    exact ⟨by omega, pre_between h (lastN ns c ns.length - k) _ hl.1.1 hl.1.2 k h1 (by omega)⟩
theorem last_lt {ns : List NodeV} {c : Nat} (hc : c < ns.length) : lastN ns c ns.length < ns.length := (lastN_own hc).1.1
theorem last_ge {ns : List NodeV} {c : Nat} (hc : c < ns.length) : c ≤ lastN ns c ns.length := (lastN_own hc).2 c ⟨hc, chain_self ns c⟩
theorem chain_par_mem {ns : List NodeV} {c i : Nat} (hp : parI ns c = (i : Int)) {p : Nat} (hm : p ∈ chain ns c) (hne : p ≠ c) : p ∈ chain ns i := by
  rw [chain_some hp] at hm
  rcases List.mem_cons.mp hm with e | hm
  · exact absurd e hne
  · exact hm
/-- Of two nodes of a chain one is in the other's. -/
theorem chain_two {ns : List NodeV} {k a b : Nat} (ha : a ∈ chain ns k) (hb : b ∈ chain ns k) : a ∈ chain ns b ∨ b ∈ chain ns a := by
  induction k using Nat.strongRecOn with
  | _ k ih =>
    by_cases e1 : a = k
    · subst e1; exact .inr hb
    by_cases e2 : b = k
    · subst e2; exact .inl ha
    rcases parI_cases ns k with hp | ⟨p, hp, hlt⟩
    · rw [chain_none hp] at ha; simp at ha; exact absurd ha e1
    · exact ih p hlt (chain_par_mem hp ha e1) (chain_par_mem hp hb e2)
/-- The first child. -/
theorem kid_first {ns : List NodeV} (h : Pre ns) {i c : Nat} (hc : c < ns.length) (hp : parI ns c = (i : Int)) : parI ns (i + 1) = (i : Int) := by
  have hlt := parI_lt ns c
  have hm : i ∈ chain ns c := by rw [chain_some hp]; exact List.mem_cons_of_mem _ (chain_self ns i)
  have hm2 := pre_between h (c - (i + 1)) c hc hm (i + 1) (by omega) (by omega)
  obtain ⟨p, hp2, hlt2, _⟩ := pre_par h (k := i + 1) (by omega) (by omega)
  have := chain_le ns p i (chain_par_mem hp2 hm2 (by omega))
  rw [hp2]
  omega
/-- The child behind a child. -/
theorem kid_next {ns : List NodeV} (h : Pre ns) {i c : Nat} (hc : c < ns.length) (hp : parI ns c = (i : Int)) (hi : i < ns.length) (hle : lastN ns c ns.length + 1 ≤ lastN ns i ns.length) : parI ns (lastN ns c ns.length + 1) = (i : Int) := by
  have hci := parI_lt ns c
  have hcl := last_ge hc
  have hil := last_lt hi
  have hm : i ∈ chain ns (lastN ns c ns.length + 1) := ((pre_last h hi).mpr ⟨by omega, hle⟩).2
  obtain ⟨p, hp2, hlt2, hpm⟩ := pre_par h (k := lastN ns c ns.length + 1) (by omega) (by omega)
  rw [Nat.add_sub_cancel] at hpm
  have hip := chain_par_mem hp2 hm (by omega)
  have hcm := (lastN_own (ns := ns) hc).1.2
  have hno : c ∉ chain ns p := fun hh => by
    have h1 : c ∈ chain ns (lastN ns c ns.length + 1) := by rw [chain_some hp2]; exact List.mem_cons_of_mem _ hh
    have := (lastN_own (ns := ns) hc).2 _ ⟨by omega, h1⟩
    omega
  rcases chain_two hpm hcm with h1 | h1
  · have hne : p ≠ c := fun e => hno (by rw [e]; exact chain_self ns c)
    have := chain_le ns i p (chain_par_mem hp h1 hne)
    have := chain_le ns p i hip
    rw [hp2]
    omega
  · exact absurd h1 hno
/-- A child behind a child stands behind all that is below that one. -/
theorem kid_after {ns : List NodeV} (h : Pre ns) {i c d : Nat} (hc : c < ns.length) (hd : d < ns.length) (hpc : parI ns c = (i : Int)) (hpd : parI ns d = (i : Int)) (hlt : c < d) : lastN ns c ns.length < d := by
  rcases Nat.lt_or_ge (lastN ns c ns.length) d with hh | hh
  · exact hh
  · have h1 := ((pre_last h hc (k := d)).mpr ⟨by omega, hh⟩).2
    have h2 := chain_le ns i c (chain_par_mem hpd h1 (by omega))
    have h3 := parI_lt ns c
    omega
/-- A node's children, rising. -/
def kidL (ns : List NodeV) (i : Nat) : List Nat := (List.range ns.length).filter (fun k => parI ns k == (i : Int))
theorem kidsN_eq (ns : List NodeV) (i : Nat) : kidsN ns i ns.length = (kidL ns i).map (fun (k : Nat) => (k : Int)) := rfl
theorem kidL_mem {ns : List NodeV} {i c : Nat} : c ∈ kidL ns i ↔ c < ns.length ∧ parI ns c = (i : Int) := by unfold kidL; simp
theorem kidL_sorted (ns : List NodeV) (i : Nat) : (kidL ns i).Pairwise (· < ·) := by
  unfold kidL
  exact List.Pairwise.filter _ List.pairwise_lt_range
/-- Where the next child stands, behind q of them. -/
def nextK (ns : List NodeV) (i q : Nat) : Nat := if q = 0 then i + 1 else match (kidL ns i)[q - 1]? with
  | some c => lastN ns c ns.length + 1
  | none => 0
theorem nextK_zero (ns : List NodeV) (i : Nat) : nextK ns i 0 = i + 1 := by unfold nextK; rw [if_pos rfl]
theorem nextK_succ {ns : List NodeV} {i q c : Nat} (h : (kidL ns i)[q]? = some c) : nextK ns i (q + 1) = lastN ns c ns.length + 1 := by
  unfold nextK
  rw [if_neg (by omega), Nat.add_sub_cancel, h]
/-- Behind q children: those that are left are the ones from there on; and if there is one from there on, one stands just there. -/
theorem kids_inv {ns : List NodeV} (h : Pre ns) {i : Nat} (hi : i < ns.length) : ∀ q, q ≤ (kidL ns i).length →
    (∀ c, c ∈ (kidL ns i).drop q ↔ c ∈ kidL ns i ∧ nextK ns i q ≤ c) ∧ (∀ c, c ∈ kidL ns i → nextK ns i q ≤ c → parI ns (nextK ns i q) = (i : Int)) ∧ i < nextK ns i q ∧ nextK ns i q ≤ lastN ns i ns.length + 1 := by
  intro q
  induction q with
  | zero =>
    intro _
    rw [nextK_zero]
    refine ⟨fun c => ?_, fun c hc _ => ?_, by omega, by have := last_ge (ns := ns) hi; omega⟩
    · rw [List.drop_zero]
      constructor
      · intro hc
        obtain ⟨_, hp⟩ := kidL_mem.mp hc
        have := parI_lt ns c
        exact ⟨hc, by omega⟩
      · exact fun hc => hc.1
    · obtain ⟨h1, hp⟩ := kidL_mem.mp hc
      exact kid_first h h1 hp
  | succ q ih =>
    intro hq
    obtain ⟨i1, i2, i3, i4⟩ := ih (by omega)
    obtain ⟨c, hc⟩ : ∃ c, (kidL ns i)[q]? = some c := ⟨_, List.getElem?_eq_getElem (by omega)⟩
    have hcm := List.mem_of_getElem? hc
    obtain ⟨hcl, hcp⟩ := kidL_mem.mp hcm
    rw [nextK_succ hc]
    have hlt := (List.getElem?_eq_some_iff.mp hc).1
    have hd : (kidL ns i).drop q = c :: (kidL ns i).drop (q + 1) := by
      rw [List.drop_eq_getElem_cons hlt]
      rw [(List.getElem?_eq_some_iff.mp hc).2]
    have hsort := (kidL_sorted ns i).sublist (List.drop_sublist q (kidL ns i))
    rw [hd, List.pairwise_cons] at hsort
    have hci := parI_lt ns c
    have hlc := last_ge (ns := ns) hcl
    have hile : lastN ns c ns.length ≤ lastN ns i ns.length := (lastN_own (ns := ns) hi).2 _ ⟨last_lt hcl, chain_trans (lastN_own (ns := ns) hcl).1.2 (by rw [chain_some hcp]; exact List.mem_cons_of_mem _ (chain_self ns i))⟩
    refine ⟨fun d => ?_, fun d hdm hle => ?_, by omega, by omega⟩
    · constructor
      · intro hm
        have h1 : d ∈ (kidL ns i).drop q := by rw [hd]; exact List.mem_cons_of_mem _ hm
        have h2 := ((i1 d).mp h1).1
        obtain ⟨hdl, hdp⟩ := kidL_mem.mp h2
        have := kid_after h hcl hdl hcp hdp (hsort.1 d hm)
        exact ⟨h2, by omega⟩
      · rintro ⟨h1, h2⟩
        have hc2 := (i1 c).mp (by rw [hd]; exact List.mem_cons_self)
        have h3 := (i1 d).mpr ⟨h1, by omega⟩
        rw [hd] at h3
        rcases List.mem_cons.mp h3 with e | h3
        · omega
        · exact h3
    · obtain ⟨hdl, hdp⟩ := kidL_mem.mp hdm
      have hdi : d ≤ lastN ns i ns.length := (lastN_own (ns := ns) hi).2 _ ⟨hdl, by rw [chain_some hdp]; exact List.mem_cons_of_mem _ (chain_self ns i)⟩
      exact kid_next h hcl hcp hi (by omega)
/-- The q-th child stands where it should. -/
theorem kid_at {ns : List NodeV} (h : Pre ns) {i q c : Nat} (hi : i < ns.length) (hc : (kidL ns i)[q]? = some c) : c = nextK ns i q := by
  have hlt := (List.getElem?_eq_some_iff.mp hc).1
  obtain ⟨i1, i2, i3, i4⟩ := kids_inv h hi q (by omega)
  have hd : (kidL ns i).drop q = c :: (kidL ns i).drop (q + 1) := by
    rw [List.drop_eq_getElem_cons hlt, (List.getElem?_eq_some_iff.mp hc).2]
  have hsort := (kidL_sorted ns i).sublist (List.drop_sublist q (kidL ns i))
  rw [hd, List.pairwise_cons] at hsort
  have hc2 := (i1 c).mp (by rw [hd]; exact List.mem_cons_self)
  have hp := i2 c hc2.1 hc2.2
  obtain ⟨hcl, _⟩ := kidL_mem.mp hc2.1
  have hn : nextK ns i q ∈ kidL ns i := kidL_mem.mpr ⟨by omega, hp⟩
  have hn2 := (i1 _).mpr ⟨hn, Nat.le_refl _⟩
  rw [hd] at hn2
  rcases List.mem_cons.mp hn2 with e | e
  · exact e.symm
  · have := hsort.1 _ e
    omega
/-- Behind the last child nothing is below the node. -/
theorem kid_end {ns : List NodeV} (h : Pre ns) {i : Nat} (hi : i < ns.length) : lastN ns i ns.length + 1 = nextK ns i (kidL ns i).length := by
  obtain ⟨i1, i2, i3, i4⟩ := kids_inv h hi _ (Nat.le_refl _)
  rcases Nat.lt_or_ge (lastN ns i ns.length) (nextK ns i (kidL ns i).length) with hh | hh
  · omega
  · exfalso
    have hil := last_lt (ns := ns) hi
    have hge := last_ge (ns := ns) hi
    have hpar : parI ns (nextK ns i (kidL ns i).length) = (i : Int) := by
      by_cases h0 : (kidL ns i).length = 0
      · rw [h0, nextK_zero] at hh ⊢
        have hm := ((pre_last h hi (k := i + 1)).mpr ⟨by omega, hh⟩).2
        obtain ⟨p, hp2, hlt2, _⟩ := pre_par h (k := i + 1) (by omega) (by omega)
        have := chain_le ns p i (chain_par_mem hp2 hm (by omega))
        rw [hp2]
        omega
      · obtain ⟨q, hq⟩ : ∃ q, (kidL ns i).length = q + 1 := ⟨(kidL ns i).length - 1, by omega⟩
        obtain ⟨c, hc⟩ : ∃ c, (kidL ns i)[q]? = some c := ⟨_, List.getElem?_eq_getElem (by omega)⟩
        obtain ⟨hcl, hcp⟩ := kidL_mem.mp (List.mem_of_getElem? hc)
        rw [hq, nextK_succ hc] at hh ⊢
        exact kid_next h hcl hcp hi hh
    have hmem : nextK ns i (kidL ns i).length ∈ kidL ns i := kidL_mem.mpr ⟨by omega, hpar⟩
    have := (i1 _).mpr ⟨hmem, Nat.le_refl _⟩
    rw [List.drop_length] at this
    cases this
/-- A Text has no children. -/
theorem kid_text {ns : List NodeV} (h : ∀ j, j < ns.length → nodeI ns j = 0) {i c : Nat} (hc : c ∈ kidL ns i) : kindAt ns i ≠ 3 := by
  obtain ⟨hcl, hcp⟩ := kidL_mem.mp hc
  have hx := List.getElem?_eq_getElem hcl
  have hci := parI_lt ns c
  have h0 := h c hcl
  rw [nodeI_at hx] at h0
  split at h0
  · cases h0
  · rename_i hpre
    split at h0
    · rename_i ha; exact absurd h0 ha
    · rw [if_neg (by omega)] at h0
      obtain ⟨p, e1, _, _, e2⟩ := preB_pos hx (by omega) (by simpa using hpre)
      have hpi : ns[c].p.toNat = i := by omega
      rw [hpi] at h0
      intro hk
      unfold kinB at h0
      rw [if_pos hk] at h0
      cases h0
theorem root_last {ns : List NodeV} (h : Pre ns) (h0 : 0 < ns.length) : lastN ns 0 ns.length = ns.length - 1 := by
  have key : ∀ k, k < ns.length → 0 ∈ chain ns k := by
    intro k
    induction k using Nat.strongRecOn with
    | _ k ih =>
      intro hk
      by_cases e : k = 0
      · subst e; exact chain_self ns 0
      · obtain ⟨p, hp, hlt, _⟩ := pre_par h (by omega) hk
        rw [chain_some hp]
        exact List.mem_cons_of_mem _ (ih p hlt (by omega))
  have h1 := last_lt (ns := ns) h0
  have h2 := (lastN_own (ns := ns) h0).2 (ns.length - 1) ⟨by omega, key _ (by omega)⟩
  omega
end Go.Proofs.Ytcgblbbadbkdgaa
