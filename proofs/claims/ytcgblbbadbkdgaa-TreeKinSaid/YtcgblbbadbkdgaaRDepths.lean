/-
  Contract of the document's answer: depths of all nodes; the statements' same.
-/
import Derived.Test.YtcgblbbadbkdgaaRKin1
import Derived.Test.YtcgblbbadbkdgaaRowInv
import Derived.Deep.QuietTactic
import Derived.BigQuiet
import Derived.Deep.DeepCutAuto
namespace Go.Proofs.Ytcgblbbadbkdgaa
open Go.RowKit
set_option linter.unusedVariables false

/-- What the loop keeps: the tree, a row of the call's own. -/
structure DepInv (w0 : World) (g : Nat) (t : TreeV) (v : Value) (F : List Int) (wr : World) : Prop where
  own : wr.ownsRow w0.heap.size 3 1 v F.length (F.flatMap intE)
  box : TBox w0 g t wr
  ne : v.ownBlock ≠ some g
theorem DepInv.below {w0 wr w' : World} {g : Nat} {t : TreeV} {v : Value} {F : List Int} (h : DepInv w0 g t v F wr) (hb : Below wr.heap.size wr w') : DepInv w0 g t v F w' := ⟨own_below h.own hb, h.box.below hb, h.ne⟩
theorem DepInv.ready {w0 wr : World} {g n : Nat} {t : TreeV} {v : Value} {F : List Int} (h : DepInv w0 g t v F wr) (hn : F.length = n) (z : Int) (L : Obj) (hL : L = .cells ([z].flatMap intE).toArray 3) :
    (wr.alloc L).ownsRow w0.heap.size 3 1 v n (F.flatMap intE) ∧ w0.heap.size ≤ (wr.alloc L).heap.size ∧ Holds intE (wr.alloc L) (wr.alloc L).heap.size (some ⟨wr.heap.size, 0, none⟩) [z] ∧
    ∀ v' w', w'.ownsRow w0.heap.size 3 1 v' (n + 1) ((F ++ [z]).flatMap intE) → (wr.alloc L).grownBy w' v.ownBlock → (v'.ownBlock = v.ownBlock ∨ v'.ownBlock = some (wr.alloc L).heap.size) → DepInv w0 g t v' (F ++ [z]) w' := by
  subst hn
  refine ⟨h.own.alloc L, ?_, ?_, fun v' w' h3 h4 h5 => ?_⟩
  · have := h.box.hb.size
    simp
    omega
  · rw [hL]; exact Holds.lit (f := intE) wr [z] 3
  · have ha := (Below.refl wr.heap.size wr).alloc (Nat.le_refl _) L
    have hbx := h.box.below ha
    have hlt := h.box.box.lt
    refine ⟨by simpa using h3, ⟨hbx.at0, hbx.box.grown h4 (Ne.symm h.ne), hbx.hb.grown h4 (by have := hbx.hb.size; omega) (fun j hj => (h.own.lt j hj).1), hbx.ge⟩, ?_⟩
    rcases h5 with e | e
    · rw [e]; exact h.ne
    · rw [e]
      intro e2
      simp at e2
      omega

set_option maxRecDepth 100000 in
set_option maxHeartbeats 1600000 in
theorem rdepths_h (t : TreeV) (w : World) (h : Hid (TreeAt w t)) (hn : t.nn ≤ 100000) :
    Calls Try.prog 25 #[.agg #[.slice t.na t.nn t.nc, .slice t.aa t.an t.ac, .int .i64 t.view]] w fun e w' => ∃ A c, e = .returned (.slice A t.nn c) ∧ Sl intE w' A t.nn c ((List.range t.nn).map fun i => (dep t.ns i : Int)) ∧ Below w.heap.size w w' := by
  have kp := fun i w h hi => rdep_h t i w h hi hn
  go_enter Try.func25, Try.ntmps25
  go_upto_region 1 with fail
  generalize hW : World.alloc w _ = V
  have hT := TBox.start h.out hW
  obtain ⟨g, hg⟩ : ∃ g, g = w.heap.size := ⟨_, rfl⟩
  rw [← hg] at hT ⊢
  clear hW hg
  have hst : Hid (DepInv w g t (.slice none 0 0) ((List.range 0).map fun i => (dep t.ns i : Int)) V) := Lib.hid ⟨World.ownsRow_nil _ _ _ _, hT, by simp [Value.ownBlock]⟩
  clear hT
  go_wp2_with fail
  go_loopw [3, 4] (fun v i wr => ∃ k : Nat, k ≤ t.nn ∧ i = .int .i64 k ∧ Hid (DepInv w g t v ((List.range k).map fun i => (dep t.ns i : Int)) wr)) (fun _ i _ => t.nn - (intOf i).toNat)
  case atStart => exact ⟨0, Nat.zero_le _, rfl, hst⟩
  case round =>
    clear hst
    obtain ⟨k, hk, rfl, hI⟩ := hrel
    obtain ⟨k0, k1, k2⟩ := hI.out.box.cells
    by_cases hlt : k < t.nn
    · have hlt' : (k : Int) < (t.nn : Int) := by omega
      have kk := kp k wr (Lib.hid hI.out.box.at_) hlt
      have hnx : Hid (((List.range k).map fun i => (dep t.ns i : Int)) ++ [(dep t.ns k : Int)] = (List.range (k + 1)).map fun i => (dep t.ns i : Int)) := Lib.hid (by rw [List.range_succ]; simp)
      have hlen : Hid (((List.range k).map fun i => (dep t.ns i : Int)).length = k) := Lib.hid (by simp)
      have hready := fun w3 (hb : Below wr.heap.size wr w3) => Lib.hid ((hI.out.below hb).ready hlen.out (dep t.ns k : Int) _ rfl)
      clear hI hlen
      generalize ((List.range k).map fun i => (dep t.ns i : Int)) = F at *
      generalize dep t.ns k = d at *
      go_wp2_with (first | (go_at_call 45; refine kk.mono ?_; rintro e w3 ⟨rfl, hb3⟩; have hr3 := hready w3 hb3; clear hready hb3) | (at_builtin; refine append_row (f := intE) rfl (.tmp 12) (.tmp 16) 45 3 rfl _ 8 Try.underlying45 infoI rfl (by decide) (by decide) intE_len intE_one w.heap.size _ k F rfl hr3.out.1 _ _ 1 1 [(d : Int)] rfl (fun h => by cases h) (Lib.hid rfl) hr3.out.2.2.1 (by omega) hr3.out.2.1 ?_; intro v' w' h3 h4 h5; have hnx2 := Lib.hid (hr3.out.2.2.2 v' w' h3 h4 h5); clear h3 h4 h5 hr3))
      go_roundw
      case rel => exact ⟨k + 1, by omega, by go_num, by rw [← hnx.out]; exact hnx2⟩
      case measure => simp [intOf]; omega
    · have e : k = t.nn := by omega
      have hlt' : ¬ (k : Int) < (t.nn : Int) := by omega
      rw [e] at hI
      replace e := Lib.hid e
      obtain ⟨A, c, ev, hS, -⟩ := Sl.own hI.out.own intE_len (by omega)
      rw [show ((List.range t.nn).map fun i => (dep t.ns i : Int)).length = t.nn by simp] at ev hS
      subst ev
      replace hS := Lib.hid hS
      go_wp2_with fail
      go_ret
      exact ⟨A, c, rfl, hS.out, hI.out.box.hb⟩

/-- Two rows of the same numbers. -/
theorem same_yes (A B : Option Addr) (n c b : Nat) (F : List Int) (w : World) (hA : Hid (Sl intE w A n c F)) (hB : Hid (Sl intE w B n b F)) (hn : n ≤ 100000) :
    Calls Try.prog 23 #[.slice A n c, .slice B n b] w fun e w' => e = .returned (.bool true) ∧ Below w.heap.size w w' := by
  have hl := Lib.hid hA.out.len
  go_enter Try.func23, Try.ntmps23
  go_wp2_with fail
  go_loopw [5] (fun i wr => ∃ k : Nat, k ≤ n ∧ i = .int .i64 k ∧ Hid (Below w.heap.size w wr)) (fun i _ => n - (intOf i).toNat)
  case atStart => exact ⟨0, Nat.zero_le _, rfl, Lib.hid (Below.refl _ _)⟩
  case round =>
    obtain ⟨k, hk, rfl, hbw⟩ := hrel
    by_cases hlt : k < n
    · have hlt' : (k : Int) < (n : Int) := by omega
      have k1 : (0 : Int) ≤ (k : Int) := by omega
      obtain ⟨x, hx⟩ : ∃ x, F[k]? = some x := ⟨_, List.getElem?_eq_getElem (by rw [← hl.out]; exact hlt)⟩
      obtain ⟨a, ha, hab, ca⟩ := (hA.out.below hbw.out).at_.int hx
      obtain ⟨b2, hb, hbb, cb⟩ := (hB.out.below hbw.out).at_.int hx
      subst ha
      subst hb
      have hbq := bl_drewN (Below.refl wr.heap.size wr)
      clear hx
      go_upto_region 6 with fail
      go_quiet (fail)
      have hT2 := Lib.hid (hbw.out.trans ((hbq nq).mono hbw.out.size))
      clear hbq
      go_wp2_with fail
      go_roundw
      case rel => exact ⟨k + 1, by omega, by go_num, hT2⟩
      case measure => simp [intOf]; omega
    · have hlt' : ¬ (k : Int) < (n : Int) := by omega
      go_wp2_with fail
      go_ret
      exact ⟨rfl, hbw.out⟩
end Go.Proofs.Ytcgblbbadbkdgaa
