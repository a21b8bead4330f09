/-
  What Check says of a chain of boxes, and of many boxes below one.
-/
import Derived.Test.YtcgblbbadbkdgaaHeads
import Derived.Test.YtcgblbbadbkdgaaGrow5
namespace Go.Proofs.Ytcgblbbadbkdgaa
open Go.RowKit
set_option linter.unusedVariables false

theorem plain_right : rightB (plainN 0 1).s = true := by decide
theorem plain_node {ns : List NodeV} {i : Nat} {p : Int} (h : ns[i]? = some (plainN p 1)) (hk : ∀ j, j < ns.length → kindAt ns j = 1) (hp : preB ns i p = true) : nodeI ns i = if 512 < dep ns i then 8 else 0 := by
  have hlt := (List.getElem?_eq_some_iff.mp h).1
  rw [nodeI_at h, if_neg (by show ¬ preB ns i p = false; rw [hp]; simp)]
  have ha : aloneI (plainN p 1).s (dep ns i) = if 512 < dep ns i then 8 else 0 := by
    unfold aloneI
    rw [if_neg (by show ¬ 65536 < 0; omega)]
    rw [show rightB (plainN p 1).s = true from plain_right]
    by_cases h5 : 512 < dep ns i
    · rw [if_pos (by omega), if_pos h5]
    · rw [if_neg (by omega), if_neg h5]; rfl
  rw [ha]
  by_cases h5 : 512 < dep ns i
  · rw [if_pos h5, if_pos (by decide)]
  · rw [if_neg h5, if_neg (by decide)]
    by_cases hi : i = 0
    · rw [if_pos hi]; rfl
    · rw [if_neg hi]
      have hb := preB_pos h hi hp
      obtain ⟨c, hc, hci, _, _⟩ := hb
      have hc' : p = (c : Int) := hc
      have hkin : kinB ns (plainN p 1).p.toNat i (plainN p 1).s = true := by
        have e : (plainN p 1).p.toNat = c := by show p.toNat = c; omega
        rw [e]
        unfold kinB
        rw [hk c (by omega), if_neg (by decide), if_neg (by decide)]
        by_cases hf : 0 ≤ firstI ns c i
        · rw [if_pos hf]
          have := firstI_lt ns c i
          rw [hk _ (by omega)]
          rfl
        · rw [if_neg hf]
      rw [hkin]; rfl
def chainNs (k : Nat) : List NodeV := (List.range k).map fun (i : Nat) => plainN ((i : Int) - 1) 1
def flatNs (k : Nat) : List NodeV := (List.range k).map fun (i : Nat) => plainN (min ((i : Int) - 1) 0) 1
theorem chainNs_at {k i : Nat} (h : i < k) : (chainNs k)[i]? = some (plainN ((i : Int) - 1) 1) := by unfold chainNs; simp [h]
theorem flatNs_at {k i : Nat} (h : i < k) : (flatNs k)[i]? = some (plainN (min ((i : Int) - 1) 0) 1) := by unfold flatNs; simp [h]
theorem chainNs_len (k : Nat) : (chainNs k).length = k := by simp [chainNs]
theorem flatNs_len (k : Nat) : (flatNs k).length = k := by simp [flatNs]
theorem chainNs_succ (k : Nat) : chainNs (k + 1) = chainNs k ++ [plainN ((k : Int) - 1) 1] := by unfold chainNs; rw [List.range_succ]; simp
theorem flatNs_succ (k : Nat) : flatNs (k + 1) = flatNs k ++ [plainN (min ((k : Int) - 1) 0) 1] := by unfold flatNs; rw [List.range_succ]; simp
theorem chain_par {k i : Nat} (h : i < k) : parI (chainNs k) i = (i : Int) - 1 := by
  rw [parI_at (chainNs_at h)]
  show (if 0 ≤ (i : Int) - 1 ∧ (i : Int) - 1 < (i : Int) then (i : Int) - 1 else -1) = _
  split <;> omega
theorem chain_dep {k : Nat} : ∀ i, i < k → dep (chainNs k) i = i + 1 := by
  intro i
  induction i with
  | zero => intro h; rw [dep_none (by rw [chain_par h]; rfl)]
  | succ i ih => intro h; rw [dep_some (p := i) (by rw [chain_par h]; omega), ih (by omega)]
theorem chain_self_ (ns : List NodeV) (i : Nat) : i ∈ chain ns i := by obtain ⟨r, e⟩ := chain_head ns i; rw [e]; simp
theorem chain_node {k i : Nat} (h : i < k) : nodeI (chainNs k) i = if 512 < i + 1 then 8 else 0 := by
  rw [plain_node (chainNs_at h) (fun j hj => by rw [chainNs_len] at hj; rw [kindAt_at (chainNs_at hj)]; rfl) ?_, chain_dep i h]
  unfold preB
  by_cases hi : i = 0
  · rw [if_pos hi, hi]; rfl
  · rw [if_neg hi]
    have e : ((i : Int) - 1).toNat = i - 1 := by omega
    rw [e]
    have := chain_self_ (chainNs k) (i - 1)
    simp [this]
    omega
theorem flat_par {k i : Nat} (h : i < k) : parI (flatNs k) i = if i = 0 then -1 else 0 := by
  rw [parI_at (flatNs_at h)]
  show (if 0 ≤ min ((i : Int) - 1) 0 ∧ min ((i : Int) - 1) 0 < (i : Int) then min ((i : Int) - 1) 0 else -1) = _
  by_cases hi : i = 0
  · rw [if_pos hi, if_neg (by omega)]
  · rw [if_neg hi, if_pos (by omega)]; omega
theorem flat_chain {k i : Nat} (h : i < k) : 0 ∈ chain (flatNs k) i ∧ dep (flatNs k) i ≤ 2 := by
  by_cases hi : i = 0
  · subst hi
    have hp := flat_par h
    rw [if_pos rfl] at hp
    rw [chain_none hp, dep_none hp]
    exact ⟨by simp, by omega⟩
  · have hp := flat_par h
    rw [if_neg hi] at hp
    have h0 := flat_par (k := k) (i := 0) (by omega)
    rw [if_pos rfl] at h0
    rw [chain_some (p := 0) hp, dep_some (p := 0) hp, chain_none h0, dep_none h0]
    exact ⟨by simp, by omega⟩
theorem flat_node {k i : Nat} (h : i < k) : nodeI (flatNs k) i = 0 := by
  rw [plain_node (flatNs_at h) (fun j hj => by rw [flatNs_len] at hj; rw [kindAt_at (flatNs_at hj)]; rfl) ?_, if_neg (by have := (flat_chain h).2; omega)]
  unfold preB
  by_cases hi : i = 0
  · rw [if_pos hi, hi]; rfl
  · rw [if_neg hi]
    have e : (min ((i : Int) - 1) 0) = 0 := by omega
    rw [e]
    have := (flat_chain (k := k) (i := i - 1) (by omega)).1
    simp [this]
theorem check_chain {k : Nat} (h0 : 0 < k) (hk : k ≤ 65536) : checkI (chainNs k) [] 0 = if 512 < k then (512, 8) else (0, 0) := by
  have hw : wholeI (chainNs k).length ([] : List Int).length [] 0 = 0 := by
    rw [chainNs_len]; unfold wholeI; rw [if_neg (by simp; omega), if_neg (by omega)]; rfl
  by_cases h5 : 512 < k
  · rw [if_pos h5, check_at (i := 512) hw (by rw [chainNs_len]; exact h5) (fun j hj => by rw [chain_node (by omega), if_neg (by omega)]) (by rw [chain_node h5]; decide), chain_node h5]
    rfl
  · rw [if_neg h5]
    exact check_ok hw fun j hj => by rw [chainNs_len] at hj; rw [chain_node hj, if_neg (by omega)]
theorem check_flat {k : Nat} (h0 : 0 < k) : checkI (flatNs k) [] 0 = if 65536 < k then (0, 7) else (0, 0) := by
  by_cases h5 : 65536 < k
  · have hw : wholeI (flatNs k).length ([] : List Int).length [] 0 = 7 := by
      rw [flatNs_len]; unfold wholeI; rw [if_pos (by omega)]
    rw [if_pos h5, check_whole (by rw [hw]; decide), hw]
  · have hw : wholeI (flatNs k).length ([] : List Int).length [] 0 = 0 := by
      rw [flatNs_len]; unfold wholeI; rw [if_neg (by simp; omega), if_neg (by omega)]; rfl
    rw [if_neg h5]
    exact check_ok hw fun j hj => by rw [flatNs_len] at hj; exact flat_node hj
theorem cons2 {a b : NodeV} {l m : List NodeV} (h : a = b) (k : l = m) : a :: l = b :: m := by rw [h, k]
/-- The row without its first node, the next one's parent put anew. -/
theorem flat_tail (k : Nat) : ∃ x y r, flatNs (k + 2) = x :: y :: r ∧ flatNs (k + 1) = { y with p := -1 } :: r := by
  refine ⟨plainN (-1) 1, plainN 0 1, (List.range k).map fun _ => plainN 0 1, ?_, ?_⟩
  · unfold flatNs
    rw [List.range_succ_eq_map, List.range_succ_eq_map]
    simp only [List.map_cons, List.map_map]
    refine cons2 rfl (cons2 rfl ?_)
    apply List.map_congr_left
    intro i _
    show plainN (min (((i + 1 + 1 : Nat) : Int) - 1) 0) 1 = plainN 0 1
    rw [show min (((i + 1 + 1 : Nat) : Int) - 1) 0 = 0 by omega]
  · unfold flatNs
    rw [List.range_succ_eq_map]
    simp only [List.map_cons, List.map_map]
    refine cons2 rfl ?_
    apply List.map_congr_left
    intro i _
    show plainN (min (((i + 1 : Nat) : Int) - 1) 0) 1 = plainN 0 1
    rw [show min (((i + 1 : Nat) : Int) - 1) 0 = 0 by omega]
theorem own_tail {w : World} {base n : Nat} {v : Value} {x y : NodeV} {r : List NodeV} (h : w.ownsRow base 49 44 v (n + 1) ((x :: y :: r).flatMap nodeE)) :
    ∃ q cap, v = .slice (some ⟨q, 0, none⟩) (n + 1) cap ∧ n + 1 ≤ cap ∧ base ≤ q ∧ q < w.heap.size ∧ w.cell? ⟨q, 44, none⟩ = some (.int .i64 y.p) ∧ w.frozen? ⟨q, 44, none⟩ = false ∧
      ∀ z, Sl nodeE (w.setCell ⟨q, 44, none⟩ (.int .i64 z)) (some ⟨q, 44, none⟩) n (cap - 1) ({ y with p := z } :: r) := by
  obtain ⟨A, cap, rfl, hS, hN⟩ := Sl.own h nodeE_len (by omega)
  obtain ⟨q, cs, rfl, hb, hc⟩ := Sl.ownB nodeE_len (by omega) h (by simp)
  have hlen := hS.len
  simp at hlen
  have hcap := hS.cap
  have hget : ∀ j u, ((y :: r).flatMap nodeE)[j]? = some u → cs[44 + j]? = some u := fun j u hu => by
    refine hc (44 + j) u ?_
    rw [List.flatMap_cons, List.getElem?_append_right (by rw [nodeE_len]; omega), nodeE_len, Nat.add_sub_cancel_left]
    exact hu
  have h44 : cs[44]? = some (.int .i64 y.p) := hget 0 _ rfl
  have hl44 := (List.getElem?_eq_some_iff.mp h44).1
  refine ⟨q, cap, rfl, hcap, hN _ rfl, hb.lt, hb.cell 44 _ h44, hb.free 44 hl44, fun z => ⟨by simp; omega, by omega, (fun e => by cases e), fun _ => ⟨_, rfl, by have := hb.lt; simpa [World.setCell] using this, fun j u hu => ?_⟩⟩⟩
  have hb2 := hb.set 44 (.int .i64 z) hl44
  have e : (Addr.add ⟨q, 44, none⟩ j) = ⟨q, 44 + j, none⟩ := by unfold Addr.add; by_cases h : j = 0 <;> simp [h]
  rw [e]
  refine hb2.cell (44 + j) u ?_
  by_cases hj : j = 0
  · subst hj
    rw [List.getElem?_set_self hl44]
    exact hu
  · rw [List.getElem?_set_ne (by omega)]
    refine hget j u ?_
    rw [← hu]
    obtain ⟨j', rfl⟩ : ∃ j', j = j' + 1 := ⟨j - 1, by omega⟩
    rfl
end Go.Proofs.Ytcgblbbadbkdgaa
