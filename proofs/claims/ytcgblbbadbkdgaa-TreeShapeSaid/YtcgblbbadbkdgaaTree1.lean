/-
  Contracts of package tree: a node's parent; what is wrong with a tree, whichever its nodes are; with the node 0; with a child.
-/
import Derived.Test.YtcgblbbadbkdgaaForest
import Derived.Deep.RegionHeld3
import Derived.Deep.DeepCutAuto
namespace Go.Proofs.Ytcgblbbadbkdgaa
open Go.RowKit
set_option linter.unusedVariables false

set_option maxRecDepth 100000 in
theorem parent_h (t : TreeV) (i : Nat) (w : World) (h : Hid (TreeAt w t)) (hi : i < t.nn) (hn : t.nn ≤ 100000) :
    Calls Try.prog 43 #[.agg #[.slice t.na t.nn t.nc, .slice t.aa t.an t.ac, .int .i64 t.view], .int .i64 i] w fun e w' => e = .returned (.int .i64 (parI t.ns i)) ∧ Below w.heap.size w w' := by
  obtain ⟨x, hx⟩ : ∃ x, t.ns[i]? = some x := ⟨_, List.getElem?_eq_getElem (by rw [← h.out.nodes.len]; exact hi)⟩
  have hd := Lib.hid (parI_at hx)
  replace hx := Lib.hid hx
  have hi1 : (0 : Int) ≤ (i : Int) := by omega
  have hi2 : (i : Int) < (t.nn : Int) := by omega
  go_enter Try.func43, Try.ntmps43
  go_upto_region 1 with fail
  generalize hW : World.alloc w _ = V
  have hT := TBox.start h.out hW
  obtain ⟨k0, k1, k2⟩ := hT.cells
  obtain ⟨a, ha, hb, c0, -⟩ := hT.at_.nodes.at_.node (Nat.le_refl _) hx.out
  rw [ha] at k0
  replace hT := Lib.hid hT.hb
  clear hW ha hx h
  generalize w.heap.size = g at k0 k1 k2 ⊢
  generalize x.p = p at *
  by_cases h0 : 0 ≤ p
  · by_cases h1 : p < (i : Int)
    · go_wp2_with fail
      go_ret
      exact ⟨by rw [hd.out, if_pos ⟨h0, h1⟩]; rfl, hT.out⟩
    · go_wp2_with fail
      go_ret
      exact ⟨by rw [hd.out, if_neg (by omega)]; rfl, hT.out⟩
  · go_wp2_with fail
    go_ret
    exact ⟨by rw [hd.out, if_neg (by omega)]; rfl, hT.out⟩

theorem all_take_succ {P : Int → Bool} {l : List Int} {k : Nat} {x : Int} (h : l[k]? = some x) : (l.take (k + 1)).all P = ((l.take k).all P && P x) := by
  rw [List.take_add_one, h]; simp

def okI (a : Int) : Bool := decide (0 ≤ a) && decide (a ≤ 1099511627776)
set_option maxRecDepth 100000 in
set_option maxHeartbeats 800000 in
theorem whole_h (t : TreeV) (w : World) (h : Hid (TreeAt w t)) (hm : t.an ≤ 100000) (hn : t.nn ≤ 100000) :
    Calls Try.prog 39 #[.agg #[.slice t.na t.nn t.nc, .slice t.aa t.an t.ac, .int .i64 t.view]] w fun e w' => e = .returned (.int .i64 (wholeI t.nn t.an t.av t.view)) ∧ Below w.heap.size w w' := by
  have hd : Hid (wholeI t.nn t.an t.av t.view = if 65536 < t.nn ∨ 4096 < t.an then 7 else if t.nn = 0 ∨ ¬ (0 ≤ t.view ∧ t.view ≤ 1099511627776) then 6 else if t.av.all okI then 0 else 6) := Lib.hid rfl
  have hsz := fun x w => asize_h x w
  go_enter Try.func39, Try.ntmps39
  go_upto_region 1 with fail
  generalize hW : World.alloc w _ = V
  have hT := TBox.start h.out hW
  obtain ⟨k0, k1, k2⟩ := hT.cells
  have hS := Lib.hid hT.at_.advs
  have hb := Lib.hid hT.hb
  clear hW hT h
  generalize w.heap.size = g at k0 k1 k2 ⊢
  by_cases h1 : 65536 < t.nn
  · have h1' : (65536 : Int) < (t.nn : Int) := by omega
    go_wp2_with fail
    go_ret
    exact ⟨by rw [hd.out, if_pos (.inl h1)]; rfl, hb.out⟩
  have h1' : ¬ (65536 : Int) < (t.nn : Int) := by omega
  by_cases h2 : 4096 < t.an
  · have h2' : (4096 : Int) < (t.an : Int) := by omega
    go_wp2_with fail
    go_ret
    exact ⟨by rw [hd.out, if_pos (.inr h2)]; rfl, hb.out⟩
  have h2' : ¬ (4096 : Int) < (t.an : Int) := by omega
  have hd2 := Lib.hid (hd.out.trans (if_neg (by omega)))
  clear hd
  by_cases h3 : t.nn = 0
  · have h3' : ((t.nn : Int) == 0) = true := by simpa using h3
    replace h3 := Lib.hid h3
    go_wp2_with fail
    go_ret
    exact ⟨by rw [hd2.out, if_pos (.inl h3.out)]; rfl, hb.out⟩
  have h3' : ((t.nn : Int) == 0) = false := by simpa using h3
  by_cases h4 : 0 ≤ t.view ∧ t.view ≤ 1099511627776
  case neg =>
    have hv : (decide (0 ≤ t.view) && decide (t.view ≤ 1099511627776)) = false := by
      rw [← Bool.not_eq_true]; simpa using h4
    have hsv := hsz t.view
    rw [hv] at hsv
    go_wp2_with (go_at_call 79; refine (hsv _).mono ?_; rintro e w1 ⟨rfl, rfl⟩)
    go_ret
    exact ⟨by rw [hd2.out, if_pos (.inr h4)]; rfl, hb.out⟩
  have hv : (decide (0 ≤ t.view) && decide (t.view ≤ 1099511627776)) = true := by simpa using h4
  have hsv := hsz t.view
  rw [hv] at hsv
  have hd3 := Lib.hid (hd2.out.trans (if_neg (by rintro (h | h); exact h3 h; exact h h4)))
  clear hd2 h4 h3 h2 h1 hv
  go_wp2_with (go_at_call 79; refine (hsv _).mono ?_; rintro e w1 ⟨rfl, rfl⟩)
  go_loopw [28] (fun i wr => ∃ k : Nat, k ≤ t.an ∧ i = .int .i64 k ∧ V = wr ∧ Hid ((t.av.take k).all okI = true)) (fun i _ => t.an - (intOf i).toNat)
  case atStart => exact ⟨0, Nat.zero_le _, rfl, rfl, Lib.hid rfl⟩
  case round =>
    clear hsv
    obtain ⟨k, hk, rfl, rfl, hall⟩ := hrel
    by_cases hlt : k < t.an
    · obtain ⟨x, hx⟩ : ∃ x, t.av[k]? = some x := ⟨_, List.getElem?_eq_getElem (by rw [← hS.out.len]; exact hlt)⟩
      obtain ⟨a, ha, hab, c0⟩ := hS.out.at_.int hx
      rw [ha] at k1 ⊢
      have hi1 : (0 : Int) ≤ (k : Int) := by omega
      have hi2 : (k : Int) < (t.an : Int) := by omega
      have hnx := Lib.hid (all_take_succ (P := okI) hx)
      have hmem := Lib.hid (List.mem_of_getElem? hx)
      have hsx := hsz x
      have hox : Hid (okI x = (decide (0 ≤ x) && decide (x ≤ 1099511627776))) := Lib.hid rfl
      rw [← hox.out] at hsx
      clear hx ha hox
      cases hv : okI x
      · rw [hv] at hsx
        go_wp2_with (go_at_call 79; refine (hsx _).mono ?_; rintro e w1 ⟨rfl, rfl⟩)
        go_ret
        refine ⟨?_, hb.out⟩
        rw [hd3.out, if_neg]
        · rfl
        · intro hh
          rw [List.all_eq_true] at hh
          rw [hh x hmem.out] at hv
          cases hv
      · rw [hv] at hsx
        go_wp2_with (go_at_call 79; refine (hsx _).mono ?_; rintro e w1 ⟨rfl, rfl⟩)
        go_roundw
        case rel => exact ⟨k + 1, by omega, by go_num, trivial, Lib.hid (by rw [hnx.out, hall.out, hv]; rfl)⟩
        case measure => simp [intOf]; omega
    · have e : k = t.an := by omega
      have ht : Hid (t.av.take k = t.av) := Lib.hid (List.take_of_length_le (by rw [← hS.out.len]; omega))
      rw [ht.out] at hall
      have hi3 : ¬ (k : Int) < (t.an : Int) := by omega
      clear e ht
      go_wp2_with fail
      go_ret
      exact ⟨by rw [hd3.out, if_pos hall.out]; rfl, hb.out⟩

/-- What is wrong with the node 0. -/
def firstNodeI (x : NodeV) : Int := if x.p ≠ -1 then 6 else if aloneI x.s 1 ≠ 0 then aloneI x.s 1 else if (x.s.kind != 1 || looseB x.s) = true then 6 else 0
set_option maxRecDepth 100000 in
theorem first_h (x : NodeV) (q : Addr) (w : World) (hc : Hid (w.cell? q = some (.int .i64 x.p))) (h : Hid (AtO w q.block (q.off + 1) x.s)) :
    Calls Try.prog 40 #[.pointer (some q)] w fun e w' => e = .returned (.int .i64 (firstNodeI x)) ∧ Below w.heap.size w w' := by
  have hd : Hid (firstNodeI x = if x.p ≠ -1 then 6 else if aloneI x.s 1 ≠ 0 then aloneI x.s 1 else if (x.s.kind != 1 || looseB x.s) = true then 6 else 0) := Lib.hid rfl
  have ka := alone_h x.s 1 q.block (q.off + 1) w h
  have c0 := hc.out
  by_cases h1 : x.p = -1
  case neg =>
    have h1' : (x.p != -1) = true := by simpa using h1
    go_enter Try.func40, Try.ntmps40
    go_wp2_with fail
    go_ret
    exact ⟨by rw [hd.out, if_pos h1]; rfl, Below.refl _ _⟩
  have hd2 := Lib.hid (hd.out.trans (if_neg (by simpa using h1)))
  rw [h1] at c0
  clear hd h1 hc
  generalize aloneI x.s 1 = e1 at *
  by_cases h2 : e1 = 0
  case neg =>
    have h2' : (e1 != 0) = true := by simpa using h2
    go_enter Try.func40, Try.ntmps40
    go_wp2_with (go_at_call 80; refine ka.mono ?_; rintro e w1 ⟨rfl, hb1⟩; replace hb1 := Lib.hid hb1)
    go_ret
    exact ⟨by rw [hd2.out, if_pos h2]; rfl, hb1.out⟩
  have hd3 := Lib.hid (hd2.out.trans (if_neg (by simpa using h2)))
  subst h2
  clear hd2
  cases hk : (x.s.kind != 1)
  all_goals
    go_enter Try.func40, Try.ntmps40
    go_upto_region 4 with (go_at_call 80; refine ka.mono ?_; rintro e w1 ⟨rfl, hb1⟩)
    have h2 := Lib.hid (h.out.below hb1)
    have c2 := h2.out.2 0 _ rfl
    simp only [Nat.add_zero] at c2
    have kl := loose_h x.s q.block (q.off + 1) w1 h2
    replace hb1 := Lib.hid hb1
    clear h2 h ka
  · cases hl : looseB x.s
    all_goals
      rw [hl] at kl
      go_wp2_with (go_at_call 81; refine kl.mono ?_; rintro e w2 ⟨rfl, rfl⟩)
      go_ret
      exact ⟨by rw [hd3.out, hk, hl]; rfl, hb1.out⟩
  · go_wp2_with fail
    go_ret
    exact ⟨by rw [hd3.out, hk]; rfl, hb1.out⟩
end Go.Proofs.Ytcgblbbadbkdgaa
