/-
  Contract of package text: places, a function that tells each word's place in turn.
-/
import Derived.Test.YtnmfcbmdopmglaaWide
import Derived.RangeFuncNested
import Derived.RangeFuncBound
import Derived.RangeFuncCalls
import Derived.RangeFuncLeaves
import Derived.Shelf.Abstract
import Derived.Shelf.RegionOpen
import Derived.WalkKit
import Derived.OwnWalkIn
import Derived.TacticsInMore
import Derived.LoopNIn
import Derived.LoopIn
namespace Go.Proofs.Ytnmfcbmdopmglaa
open Go.RowKit Go.Shelf
set_option linter.unusedVariables false
attribute [local go_sem] Oper.semAt_some

/-- A place among n units. -/
abbrev PlcN (n : Nat) := { p : Plc // p.s < p.t ∧ p.t ≤ n }
def plcs {n : Nat} (l : List (PlcN n)) : List Plc := l.map (·.1)
theorem plcs_snoc {n : Nat} (l : List (PlcN n)) (p : PlcN n) : plcs (l ++ [p]) = plcs l ++ [p.1] := by simp [plcs]
/-- What a round keeps: what lay below n₀, and the cell that says which units. -/
def KpB (n₀ Bs : Nat) (W W' : World) : Prop := Below n₀ W W' ∧ W'.cell? ⟨Bs, 0, none⟩ = W.cell? ⟨Bs, 0, none⟩
theorem KpB.refl (n₀ Bs : Nat) (W : World) : KpB n₀ Bs W W := ⟨Below.refl _ _, rfl⟩
theorem KpB.trans {n₀ Bs : Nat} {A B C : World} (h : KpB n₀ Bs A B) (k : KpB n₀ Bs B C) : KpB n₀ Bs A C := ⟨h.1.trans k.1, k.2.trans h.2⟩
theorem KpB.book {n₀ Bs : Nat} {w : World} (hn : n₀ ≤ w.heap.size) (hB : Bs < w.heap.size) (W : World) (l : Nat) (o o' : Obj) (hl : w.heap.size ≤ l) (h : W.heap[l]? = some o) (h1 : o.isCells = false) (h2 : o.isWalk = false) : KpB n₀ Bs W (W.putObj l o') :=
  ⟨belowK_b hn W l o o' hl h h1 h2, World.cell?_of_block (a := ⟨Bs, 0, none⟩) (World.putObj_heap_other (by show Bs ≠ l; omega))⟩

/-- What the loop of places keeps. -/
structure PlInv (u : List Int) (k s en : Nat) (ps : List Plc) (z : Nat) : Prop where
  chn : Chn u 0 ps z
  gap : Gap u z s en
  run : Run u s k
theorem PlInv.more {u : List Int} {k s en z : Nat} {ps : List Plc} (h : PlInv u k s en ps z) (hw : wAt u k = true) : PlInv u (k + 1) s en ps z := ⟨h.chn, h.gap, h.run.snoc hw⟩
theorem PlInv.skip {u : List Int} {k en z : Nat} {x : Int} {ps : List Plc} (h : PlInv u k k en ps z) (hx : u[k]? = some x) (hw : isW x = false) : PlInv u (k + 1) (k + 1) (en + if x = 10 then 1 else 0) ps z := ⟨h.chn, h.gap.snoc hx hw, Run.nil _ _⟩
theorem PlInv.word {u : List Int} {k s en z : Nat} {x : Int} {ps : List Plc} (h : PlInv u k s en ps z) (hs : s < k) (hx : u[k]? = some x) (hw : isW x = false) : PlInv u (k + 1) (k + 1) (if x = 10 then 1 else 0) (ps ++ [⟨s, k, en⟩]) k := by
  have hk := (List.getElem?_eq_some_iff.1 hx).1
  refine ⟨chn_snoc ps 0 z ⟨s, k, en⟩ h.chn ⟨h.gap, hs, h.run, by unfold wAt; rw [hx]; exact hw⟩, ?_, Run.nil _ _⟩
  have := (Gap.nil (u := u) (a := k) (by omega)).snoc hx hw
  rwa [Nat.zero_add] at this
theorem PlInv.last {u : List Int} {s en z : Nat} {ps : List Plc} (h : PlInv u u.length s en ps z) (hs : s < u.length) : Whl u (ps ++ [⟨s, u.length, en⟩]) :=
  ⟨u.length, 0, chn_snoc ps 0 z ⟨s, u.length, en⟩ h.chn ⟨h.gap, hs, h.run, wAt_end u⟩, Gap.nil (Nat.le_refl _)⟩
theorem PlInv.none {u : List Int} {en z : Nat} {ps : List Plc} (h : PlInv u u.length u.length en ps z) : Whl u ps := ⟨z, en, h.chn, h.gap⟩
theorem PlInv.to {u : List Int} {n s en z : Nat} {ps : List Plc} (h : PlInv u n s en ps z) (e : n = u.length) : PlInv u u.length s en ps z := e ▸ h
theorem PlInv.len {u : List Int} {k s en z : Nat} {ps : List Plc} (h : PlInv u k s en ps z) : ps.length ≤ s ∧ en ≤ s ∧ s ≤ k := by
  have h1 := chn_len ps 0 z h.chn
  have h2 := h.gap.1
  refine ⟨by omega, ?_, h.run.1⟩
  rw [← h.gap.2.2.2]
  have : endsN (cut u z s) ≤ (cut u z s).length := List.length_filter_le _ _
  have hc : (cut u z s).length ≤ s := by simp [cut]; omega
  omega

set_option maxRecDepth 100000 in
set_option maxHeartbeats 2000000 in
theorem places1_in (m l Bs n c : Nat) (hm : 1 ≤ m) (U : Option Addr) (u : List Int) (w0 : World) (hU : Hid (Sl u16E w0 U n c u)) (hu : Hid (∀ x ∈ u, U16 x)) (hn : n ≤ 1000000) (J Jx : List (PlcN n) → World → Prop)
    (hY : Hid (∀ pre (x : PlcN n) W, J pre W → pre.length < n → YieldAt Fence.wide (m - 1) Try.prog l #[.agg #[.int .i64 x.1.s, .int .i64 x.1.t, .int .i64 x.1.e]] W fun e W' =>
      (e = .returned (.bool true) ∧ J (pre ++ [x]) W' ∧ KpB w0.heap.size Bs W W') ∨ (e = .returned (.bool false) ∧ Jx (pre ++ [x]) W')))
    (W : World) (hb : Hid (Below w0.heap.size w0 W)) (hBs : W.cell? ⟨Bs, 0, none⟩ = some (.slice U n c)) (h0 : Hid (J [] W)) :
    CallsIn Fence.wide m Try.prog 52 #[.func (.yield l) #[] #[], .pointer (some ⟨Bs, 0, none⟩)] W fun e W' => (∃ v, e = .returned v) ∧
      ((∃ ys, Whl u (plcs ys) ∧ J ys W') ∨ (∃ pre, True ∧ Jx pre W')) := by
  refine callsIn_of_wp Try.func52 rfl trivial ?_ rfl
  simp only [Try.ntmps52, List.size_toArray, List.length_cons, List.length_nil, Nat.reduceAdd, Nat.reduceSub, Array.replicate_succ, Array.replicate_zero, List.push_toArray, List.append_toArray, List.nil_append, List.cons_append]
  have hst : Hid (PlInv u 0 0 0 (plcs ([] : List (PlcN n))) 0) := Lib.hid ⟨rfl, Gap.nil (Nat.zero_le _), Run.nil _ _⟩
  gi_wp2
  gi_loopw [3, 4, 10] (fun f e i wr => ∃ (k s en z : Nat) (pre : List (PlcN n)), k ≤ n ∧ i = .int .i64 k ∧ f = .int .i64 s ∧ e = .int .i64 en ∧ Hid (PlInv u k s en (plcs pre) z) ∧ Hid (J pre wr) ∧ Hid (KpB w0.heap.size Bs W wr))
    (fun _ _ i _ => n - (intOf i).toNat)
  case atStart => exact ⟨0, 0, 0, 0, [], Nat.zero_le _, rfl, rfl, rfl, hst, h0, Lib.hid (KpB.refl _ _ _)⟩
  case round =>
    obtain ⟨k, s, en, z, pre, hk, rfl, rfl, rfl, hP, hJ, hK⟩ := hrel
    clear hst h0
    obtain ⟨hl1, hl2, hl3⟩ := hP.out.len
    have hBw := hK.out.2.trans hBs
    have hlen := hU.out.len
    have hpl : pre.length = (plcs pre).length := by simp [plcs]
    have i1 : (0 : Int) ≤ (k : Int) := by omega
    by_cases hlt : k < n
    · have i2 : (k : Int) < (n : Int) := by omega
      obtain ⟨b, rfl, hbb, hcu0⟩ := u16_cell hU.out hlt
      have hcu := ((hb.out.trans hK.out.1).cell (p := b.add k) (by rw [add_block]; exact hbb)).trans hcu0
      have hxu := u16_get hu.out k
      have hgx : u[k]? = some (u.getD k 0) := by rw [List.getD_eq_getElem?_getD, List.getElem?_eq_getElem (by omega)]; rfl
      generalize u.getD k 0 = x at *
      obtain ⟨x0, x1⟩ := hxu
      replace hgx := Lib.hid hgx
      clear hcu0 hpl hlen
      by_cases hw : isW x = true
      · have h32 : (x == 32) = false := by cases h : (x == 32) <;> simp_all [isW]
        have h10 : (x == 10) = false := by cases h : (x == 10) <;> simp_all [isW]
        have hP2 := Lib.hid (hP.out.more (by unfold wAt; rw [hgx.out]; exact hw))
        clear hw
        gi_wp2
        go_roundw
        case rel => exact ⟨k + 1, s, en, z, pre, by omega, by go_num, rfl, rfl, hP2, hJ, hK⟩
        case measure => simp [intOf]; omega
      · have hw : isW x = false := by simpa using hw
        have hx : x = 32 ∨ x = 10 := by
          unfold isW at hw
          rcases Bool.and_eq_false_iff.1 hw with h | h
          · exact .inl (by simpa using h)
          · exact .inr (by simpa using h)
        by_cases hsk : s < k
        · have hP2 := Lib.hid (hP.out.word hsk hgx.out hw)
          have j1 : (s : Int) < (k : Int) := by omega
          obtain ⟨y, hy0⟩ : ∃ y : PlcN n, y = ⟨⟨s, k, en⟩, hsk, by omega⟩ := ⟨_, rfl⟩
          obtain ⟨fn, tmps, assign, body, hy, hR⟩ := hY.out pre y wr hJ.out (by simp [plcs] at hl1; omega)
          have hyv : y.1 = ⟨s, k, en⟩ := by rw [hy0]
          rw [hyv] at hy
          dsimp only at hy
          have hP3 : ∀ e, Hid (e = if x = 10 then 1 else 0) → Hid (PlInv u (k + 1) (k + 1) e (plcs (pre ++ [y])) k) := fun e he => by rw [he.out]; refine Lib.hid ?_; rw [plcs_snoc, hyv]; exact hP2.out
          replace hP3 := Lib.hid hP3
          replace hR := Lib.hid hR
          clear hP2 hw hy0 hyv hP hl1
          rcases hx with rfl | rfl
          · have hP4 := hP3.out 0 (Lib.hid rfl)
            clear hP3
            gi_wp2
            refine hR.out.mono ?_
            rintro e W3 (⟨rfl, hJ3, hk3⟩ | ⟨rfl, hJx3⟩)
            · replace hJ3 := Lib.hid hJ3
              have hK3 := Lib.hid (hK.out.trans hk3)
              clear hk3 hK hJ
              gi_wp2
              go_roundw
              case rel => exact ⟨k + 1, k + 1, 0, k, pre ++ [y], by omega, by go_num, by go_num, rfl, hP4, hJ3, hK3⟩
              case measure => simp [intOf]; omega
            · replace hJx3 := Lib.hid hJx3
              gi_wp2
              refine bodyPost_ret (results_none rfl _ _ _) rfl ?_
              exact ⟨⟨_, rfl⟩, .inr ⟨_, trivial, hJx3.out⟩⟩
          · have hP4 := hP3.out 1 (Lib.hid rfl)
            clear hP3
            gi_wp2
            refine hR.out.mono ?_
            rintro e W3 (⟨rfl, hJ3, hk3⟩ | ⟨rfl, hJx3⟩)
            · replace hJ3 := Lib.hid hJ3
              have hK3 := Lib.hid (hK.out.trans hk3)
              clear hk3 hK hJ
              gi_wp2
              go_roundw
              case rel => exact ⟨k + 1, k + 1, 1, k, pre ++ [y], by omega, by go_num, by go_num, rfl, hP4, hJ3, hK3⟩
              case measure => simp [intOf]; omega
            · replace hJx3 := Lib.hid hJx3
              gi_wp2
              refine bodyPost_ret (results_none rfl _ _ _) rfl ?_
              exact ⟨⟨_, rfl⟩, .inr ⟨_, trivial, hJx3.out⟩⟩
        · obtain rfl : s = k := by omega
          have hP2 := hP.out.skip hgx.out hw
          clear hw hP
          rcases hx with rfl | rfl
          · replace hP2 : Hid (PlInv u (s + 1) (s + 1) en (plcs pre) z) := Lib.hid hP2
            gi_wp2
            go_roundw
            case rel => exact ⟨s + 1, s + 1, en, z, pre, by omega, by go_num, by go_num, rfl, hP2, hJ, hK⟩
            case measure => simp [intOf]; omega
          · replace hP2 : Hid (PlInv u (s + 1) (s + 1) (en + 1) (plcs pre) z) := Lib.hid hP2
            gi_wp2
            go_roundw
            case rel => exact ⟨s + 1, s + 1, en + 1, z, pre, by omega, by go_num, by go_num, by go_num, hP2, hJ, hK⟩
            case measure => simp [intOf]; omega
    · obtain rfl : n = k := by omega
      by_cases hsk : s < n
      · have hW := Lib.hid ((hP.out.to hlen).last (by omega))
        have j1 : (s : Int) < (n : Int) := by omega
        obtain ⟨y, hy0⟩ : ∃ y : PlcN n, y = ⟨⟨s, n, en⟩, hsk, Nat.le_refl _⟩ := ⟨_, rfl⟩
        obtain ⟨fn, tmps, assign, body, hy, hR⟩ := hY.out pre y wr hJ.out (by omega)
        have hyv : y.1 = ⟨s, n, en⟩ := by rw [hy0]
        rw [hyv] at hy
        dsimp only at hy
        have hW2 : Hid (Whl u (plcs (pre ++ [y]))) := by
          have e : (⟨s, n, en⟩ : Plc) = ⟨s, u.length, en⟩ := by rw [← hlen]
          refine Lib.hid ?_
          rw [plcs_snoc, hyv, e]
          exact hW.out
        replace hR := Lib.hid hR
        replace hlen := Lib.hid hlen
        clear hW hy0 hyv hP hl1 hpl
        gi_wp2
        refine hR.out.mono ?_
        rintro e W3 (⟨rfl, hJ3, hk3⟩ | ⟨rfl, hJx3⟩)
        · replace hJ3 := Lib.hid hJ3
          gi_wp2
          go_end0
          exact ⟨⟨_, rfl⟩, .inl ⟨_, hW2.out, hJ3.out⟩⟩
        · replace hJx3 := Lib.hid hJx3
          gi_wp2
          go_end0
          exact ⟨⟨_, rfl⟩, .inr ⟨_, trivial, hJx3.out⟩⟩
      · obtain rfl : n = s := by omega
        have hW : Hid (Whl u (plcs pre)) := Lib.hid (PlInv.none (en := en) (z := z) ⟨hP.out.chn, by rw [← hlen]; exact hP.out.gap, Run.nil _ _⟩)
        replace hlen := Lib.hid hlen
        clear hP hpl
        gi_wp2
        go_end0
        exact ⟨⟨_, rfl⟩, .inl ⟨_, hW.out, hJ.out⟩⟩
end Go.Proofs.Ytnmfcbmdopmglaa
