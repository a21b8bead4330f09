/-
  Contracts of the document's answer: a node's parent, how deep it is, whether it is below another one, a node's first child.
-/
import Derived.Test.YtcgblbbadbkdgaaHeads
namespace Go.Proofs.Ytcgblbbadbkdgaa
open Go.RowKit
set_option linter.unusedVariables false

set_option maxRecDepth 100000 in
theorem rpar_h (t : TreeV) (i : Nat) (w : World) (h : Hid (TreeAt w t)) (hi : i < t.nn) (hn : t.nn ≤ 100000) :
    Calls Try.prog 44 #[.agg #[.slice t.na t.nn t.nc, .slice t.aa t.an t.ac, .int .i64 t.view], .int .i64 i] w fun e w' => e = .returned (.int .i64 (parI t.ns i)) ∧ Below w.heap.size w w' := by
  obtain ⟨x, hx⟩ : ∃ x, t.ns[i]? = some x := ⟨_, List.getElem?_eq_getElem (by rw [← h.out.nodes.len]; exact hi)⟩
  have hd := Lib.hid (parI_at hx)
  replace hx := Lib.hid hx
  have hi1 : (0 : Int) ≤ (i : Int) := by omega
  have hi2 : (i : Int) < (t.nn : Int) := by omega
  go_enter Try.func44, Try.ntmps44
  go_upto_region 1 with fail
  generalize hW : World.alloc w _ = V
  have hT := TBox.start h.out hW
  obtain ⟨k0, k1, k2⟩ := hT.cells
  obtain ⟨a, ha, hb, c0, -⟩ := hT.at_.nodes.at_.node (Nat.le_refl _) hx.out
  rw [ha] at k0
  replace hT := Lib.hid hT.hb
  clear hW ha hx h
  generalize w.heap.size = g at k0 k1 k2 ⊢
  generalize x.p = p at *
  by_cases h0 : 0 ≤ p
  · by_cases h1 : p < (i : Int)
    · go_wp2_with fail
      go_ret
      exact ⟨by rw [hd.out, if_pos ⟨h0, h1⟩]; rfl, hT.out⟩
    · go_wp2_with fail
      go_ret
      exact ⟨by rw [hd.out, if_neg (by omega)]; rfl, hT.out⟩
  · go_wp2_with fail
    go_ret
    exact ⟨by rw [hd.out, if_neg (by omega)]; rfl, hT.out⟩


/-- Is a node below another one? -/
def belB (ns : List NodeV) (i over : Nat) : Bool := (chain ns i).tail.contains over
def restL (ns : List NodeV) (p : Int) : List Nat := if 0 ≤ p then chain ns p.toNat else []
theorem rest_par (ns : List NodeV) (i : Nat) : (chain ns i).tail = restL ns (parI ns i) := by
  unfold restL
  rcases parI_cases ns i with h | ⟨p, h, _⟩
  · rw [chain_none h, h, if_neg (by omega)]; rfl
  · rw [chain_some h, h, if_pos (by omega)]; rfl
theorem rest_some (ns : List NodeV) (p : Nat) : restL ns (p : Int) = p :: restL ns (parI ns p) := by
  rw [← rest_par]
  unfold restL
  rw [if_pos (by omega), Int.toNat_natCast]
  obtain ⟨r, e⟩ := chain_head ns p
  rw [e]; rfl
theorem rest_none (ns : List NodeV) : restL ns (-1) = [] := by unfold restL; rw [if_neg (by omega)]
theorem dep_rest (ns : List NodeV) (i : Nat) : dep ns i = 1 + (restL ns (parI ns i)).length := by
  rw [← rest_par]
  unfold dep
  obtain ⟨r, e⟩ := chain_head ns i
  rw [e]; simp; omega
theorem bel_rest (ns : List NodeV) (i over : Nat) : belB ns i over = (restL ns (parI ns i)).contains over := by unfold belB; rw [rest_par]
theorem belB_iff {ns : List NodeV} {i over : Nat} (h : over < i) : belB ns i over = true ↔ over ∈ chain ns i := by
  unfold belB
  obtain ⟨r, e⟩ := chain_head ns i
  rw [e]
  simp
  intro h2
  omega

set_option maxRecDepth 100000 in
set_option maxHeartbeats 800000 in
theorem rdep_h (t : TreeV) (i : Nat) (w : World) (h : Hid (TreeAt w t)) (hi : i < t.nn) (hn : t.nn ≤ 100000) :
    Calls Try.prog 45 #[.agg #[.slice t.na t.nn t.nc, .slice t.aa t.an t.ac, .int .i64 t.view], .int .i64 i] w fun e w' => e = .returned (.int .i64 (dep t.ns i : Int)) ∧ Below w.heap.size w w' := by
  have kp := fun i w h hi => rpar_h t i w h hi hn
  have hd := Lib.hid (dep_rest t.ns i)
  go_enter Try.func45, Try.ntmps45
  go_upto_region 1 with fail
  generalize hW : World.alloc w _ = V
  have hT := TBox.start h.out hW
  obtain ⟨g, hg⟩ : ∃ g, g = w.heap.size := ⟨_, rfl⟩
  rw [← hg] at hT ⊢
  clear hW hg
  obtain ⟨k0, k1, k2⟩ := hT.cells
  have kk := kp i V (Lib.hid hT.at_) hi
  replace hT := Lib.hid hT
  go_wp2_with (go_at_call 44; refine kk.mono ?_; rintro e w1 ⟨rfl, hb1⟩; replace hT := Lib.hid (hT.out.below hb1))
  have hp0 := Lib.hid (And.intro (parI_ge t.ns i) (parI_lt t.ns i))
  clear kk hb1 k0 k1 k2
  go_loopw [5, 6] (fun n p wr => ∃ (m : Nat) (q : Int), n = .int .i64 m ∧ p = .int .i64 q ∧ -1 ≤ q ∧ q < i ∧ Hid (TBox w g t wr) ∧ Hid (dep t.ns i = m + (restL t.ns q).length)) (fun _ p _ => (intOf p + 1).toNat)
  case atStart => exact ⟨1, _, rfl, rfl, hp0.out.1, hp0.out.2, hT, hd⟩
  case round =>
    clear hT hd hp0
    obtain ⟨m, q, rfl, rfl, hq1, hq2, hT, hd⟩ := hrel
    have hdl := dep_le t.ns i
    obtain ⟨k0, k1, k2⟩ := hT.out.cells
    by_cases hq : q = -1
    · subst hq
      have e : dep t.ns i = m := by rw [hd.out, rest_none]; rfl
      go_wp2_with fail
      go_ret
      exact ⟨by rw [e]; rfl, hT.out.hb⟩
    · obtain ⟨p, rfl⟩ : ∃ p : Nat, q = (p : Int) := ⟨q.toNat, by omega⟩
      have hd2 : Hid (dep t.ns i = m + 1 + (restL t.ns (parI t.ns p)).length) := Lib.hid (by rw [hd.out, rest_some]; simp; omega)
      have kk := kp p wr (Lib.hid hT.out.at_) (by omega)
      have hpp := And.intro (parI_ge t.ns p) (parI_lt t.ns p)
      have hm : m ≤ 100001 := by have := hd2.out; omega
      have p1 : (0 : Int) ≤ (p : Int) := by omega
      clear hd
      generalize parI t.ns p = q2 at *
      go_wp2_with (go_at_call 44; refine kk.mono ?_; rintro e w1 ⟨rfl, hb1⟩; replace hb1 := Lib.hid (hT.out.below hb1))
      go_roundw
      case rel => exact ⟨m + 1, q2, by go_num, rfl, hpp.1, by omega, hb1, hd2⟩
      case measure => simp [intOf]; omega

set_option maxRecDepth 100000 in
set_option maxHeartbeats 800000 in
theorem rbel_h (t : TreeV) (i over : Nat) (w : World) (h : Hid (TreeAt w t)) (hi : i < t.nn) (hn : t.nn ≤ 100000) :
    Calls Try.prog 46 #[.agg #[.slice t.na t.nn t.nc, .slice t.aa t.an t.ac, .int .i64 t.view], .int .i64 i, .int .i64 over] w fun e w' => e = .returned (.bool (belB t.ns i over)) ∧ Below w.heap.size w w' := by
  have kp := fun i w h hi => rpar_h t i w h hi hn
  have hd := Lib.hid (bel_rest t.ns i over)
  go_enter Try.func46, Try.ntmps46
  go_upto_region 1 with fail
  generalize hW : World.alloc w _ = V
  have hT := TBox.start h.out hW
  obtain ⟨g, hg⟩ : ∃ g, g = w.heap.size := ⟨_, rfl⟩
  rw [← hg] at hT ⊢
  clear hW hg
  obtain ⟨k0, k1, k2⟩ := hT.cells
  have kk := kp i V (Lib.hid hT.at_) hi
  replace hT := Lib.hid hT
  go_wp2_with (go_at_call 44; refine kk.mono ?_; rintro e w1 ⟨rfl, hb1⟩; replace hT := Lib.hid (hT.out.below hb1))
  have hp0 := Lib.hid (And.intro (parI_ge t.ns i) (parI_lt t.ns i))
  clear kk hb1 k0 k1 k2
  go_loopw [7] (fun p wr => ∃ (q : Int), p = .int .i64 q ∧ -1 ≤ q ∧ q < i ∧ Hid (TBox w g t wr) ∧ Hid (belB t.ns i over = (restL t.ns q).contains over)) (fun p _ => (intOf p + 1).toNat)
  case atStart => exact ⟨_, rfl, hp0.out.1, hp0.out.2, hT, hd⟩
  case round =>
    clear hT hd hp0
    obtain ⟨q, rfl, hq1, hq2, hT, hd⟩ := hrel
    obtain ⟨k0, k1, k2⟩ := hT.out.cells
    by_cases hq : q = -1
    · subst hq
      have e : belB t.ns i over = false := by rw [hd.out, rest_none]; rfl
      go_wp2_with fail
      go_ret
      exact ⟨by rw [e]; rfl, hT.out.hb⟩
    · obtain ⟨p, rfl⟩ : ∃ p : Nat, q = (p : Int) := ⟨q.toNat, by omega⟩
      have p1 : (0 : Int) ≤ (p : Int) := by omega
      by_cases hpo : p = over
      · have hpo' : ((p : Int) == (over : Int)) = true := by rw [hpo]; simp
        have e : belB t.ns i over = true := by rw [hd.out, rest_some, hpo]; simp
        replace hpo := Lib.hid hpo
        go_wp2_with fail
        go_ret
        exact ⟨by rw [e]; rfl, hT.out.hb⟩
      have hpo' : ((p : Int) == (over : Int)) = false := by rw [beq_eq_false_iff_ne]; omega
      have hd2 : Hid (belB t.ns i over = (restL t.ns (parI t.ns p)).contains over) := Lib.hid (by
        rw [hd.out, rest_some, List.contains_cons]
        have : (over == p) = false := by simp; omega
        rw [this]; rfl)
      have kk := kp p wr (Lib.hid hT.out.at_) (by omega)
      have hpp := And.intro (parI_ge t.ns p) (parI_lt t.ns p)
      clear hd
      generalize parI t.ns p = q2 at *
      go_wp2_with (go_at_call 44; refine kk.mono ?_; rintro e w1 ⟨rfl, hb1⟩; replace hb1 := Lib.hid (hT.out.below hb1))
      go_roundw
      case rel => exact ⟨q2, rfl, hpp.1, by omega, hb1, hd2⟩
      case measure => simp [intOf]; omega

theorem first_is {ns : List NodeV} {p i k : Nat} (h1 : p < k) (h2 : k < i) (hk : parI ns k = (p : Int)) (hno : ∀ j, p < j → j < k → parI ns j ≠ (p : Int)) : firstI ns p i = (k : Int) := by
  have e : (List.range' (p + 1) (i - (p + 1))).find? (fun k => parI ns k == (p : Int)) = some k := by
    have e1 : List.range' (p + 1) (i - (p + 1)) = List.range' (p + 1) (k - (p + 1)) ++ List.range' k (i - k) := by
      have := List.range'_append_1 (s := p + 1) (m := k - (p + 1)) (n := i - k)
      rw [show p + 1 + (k - (p + 1)) = k by omega, show k - (p + 1) + (i - k) = i - (p + 1) by omega] at this
      exact this.symm
    rw [e1, List.find?_append]
    have e2 : (List.range' (p + 1) (k - (p + 1))).find? (fun k => parI ns k == (p : Int)) = none := by
      rw [List.find?_eq_none]
      intro j hj
      rw [List.mem_range'_1] at hj
      simpa using hno j (by omega) (by omega)
    obtain ⟨m, hm⟩ : ∃ m, i - k = m + 1 := ⟨i - k - 1, by omega⟩
    rw [e2, hm, List.range'_succ, List.find?_cons, hk]
    simp
  unfold firstI
  rw [e]
theorem first_no {ns : List NodeV} {p i : Nat} (hno : ∀ j, p < j → j < i → parI ns j ≠ (p : Int)) : firstI ns p i = -1 := by
  have e : (List.range' (p + 1) (i - (p + 1))).find? (fun k => parI ns k == (p : Int)) = none := by
    rw [List.find?_eq_none]
    intro j hj
    rw [List.mem_range'_1] at hj
    simpa using hno j (by omega) (by omega)
  unfold firstI
  rw [e]

set_option maxRecDepth 100000 in
set_option maxHeartbeats 800000 in
theorem rfirst_h (t : TreeV) (p i : Nat) (w : World) (h : Hid (TreeAt w t)) (hp : p < i) (hi : i < t.nn) (hn : t.nn ≤ 100000) :
    Calls Try.prog 83 #[.agg #[.slice t.na t.nn t.nc, .slice t.aa t.an t.ac, .int .i64 t.view], .int .i64 p, .int .i64 i] w fun e w' => e = .returned (.int .i64 (firstI t.ns p i)) ∧ Below w.heap.size w w' := by
  have kp := fun i w h hi => rpar_h t i w h hi hn
  go_enter Try.func83, Try.ntmps83
  go_upto_region 1 with fail
  generalize hW : World.alloc w _ = V
  have hT := TBox.start h.out hW
  obtain ⟨g, hg⟩ : ∃ g, g = w.heap.size := ⟨_, rfl⟩
  rw [← hg] at hT ⊢
  clear hW hg
  replace hT := Lib.hid hT
  go_wp2_with fail
  go_loopw [7] (fun k wr => ∃ m : Nat, p < m ∧ m ≤ i ∧ k = .int .i64 m ∧ Hid (TBox w g t wr) ∧ Hid (∀ j, p < j → j < m → parI t.ns j ≠ (p : Int))) (fun k _ => i - (intOf k).toNat)
  case atStart => exact ⟨p + 1, by omega, by omega, by go_num, hT, Lib.hid (fun j h1 h2 => by omega)⟩
  case round =>
    clear hT
    obtain ⟨m, hm1, hm2, rfl, hT, hno⟩ := hrel
    obtain ⟨k0, k1, k2⟩ := hT.out.cells
    by_cases hlt : m < i
    · have hlt' : (m : Int) < (i : Int) := by omega
      have kk := kp m wr (Lib.hid hT.out.at_) (by omega)
      by_cases hq : parI t.ns m = (p : Int)
      · have hf := Lib.hid (first_is hm1 hlt hq hno.out)
        rw [hq] at kk
        go_wp2_with (go_at_call 44; refine kk.mono ?_; rintro e w1 ⟨rfl, hb1⟩; replace hb1 := Lib.hid (hT.out.below hb1))
        go_ret
        exact ⟨by rw [hf.out]; rfl, hb1.out.hb⟩
      · have hq' : (parI t.ns m == (p : Int)) = false := by simpa using hq
        replace hq := Lib.hid hq
        go_wp2_with (go_at_call 44; refine kk.mono ?_; rintro e w1 ⟨rfl, hb1⟩; replace hb1 := Lib.hid (hT.out.below hb1))
        go_roundw
        case rel => exact ⟨m + 1, by omega, by omega, by go_num, hb1, Lib.hid (fun j h1 h2 => by
          by_cases e : j = m
          · rw [e]; exact hq.out
          · exact hno.out j h1 (by omega))⟩
        case measure => simp [intOf]; omega
    · have e : m = i := by omega
      have hlt' : ¬ (m : Int) < (i : Int) := by omega
      have hf := Lib.hid (first_no (i := i) (fun j h1 h2 => hno.out j h1 (by omega)))
      go_wp2_with fail
      go_ret
      exact ⟨by rw [hf.out]; rfl, hT.out.hb⟩
end Go.Proofs.Ytcgblbbadbkdgaa
