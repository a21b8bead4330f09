/-
  Contract of the document's answer: the last ones below all nodes.
-/
import Derived.Test.YtcgblbbadbkdgaaRKin1
import Derived.Test.YtcgblbbadbkdgaaRowInv
namespace Go.Proofs.Ytcgblbbadbkdgaa
open Go.RowKit
set_option linter.unusedVariables false

theorem lastN_succ (ns : List NodeV) (i m : Nat) : lastN ns i (m + 1) = if decide (i < m) && (chain ns m).contains i then m else lastN ns i m := by
  unfold lastN
  rw [List.range_succ, List.foldl_append]
  rfl
theorem lastN_low (ns : List NodeV) (i : Nat) : ∀ m, m ≤ i + 1 → lastN ns i m = i := by
  intro m
  induction m with
  | zero => intro _; rfl
  | succ m ih => intro h; rw [lastN_succ, if_neg (by simp; omega), ih (by omega)]
theorem bel_contains {ns : List NodeV} {k i : Nat} (h : i < k) : belB ns k i = (chain ns k).contains i := by
  rw [Bool.eq_iff_iff, belB_iff h, List.contains_iff_mem]

set_option maxRecDepth 100000 in
set_option maxHeartbeats 1600000 in
theorem rlast_h (t : TreeV) (w : World) (h : Hid (TreeAt w t)) (hn : t.nn ≤ 100000) :
    Calls Try.prog 27 #[.agg #[.slice t.na t.nn t.nc, .slice t.aa t.an t.ac, .int .i64 t.view]] w fun e w' => MadeI w t.nn (fun i => (lastN t.ns i t.nn : Int)) e w' := by
  have hmk := fun W => make_row (P := Try.prog) 45 3 (.int .i64 0) 1 8 Try.underlying45 infoI (by decide) t.nn t.nn (t.nn : Int) (t.nn : Int) rfl rfl (Nat.le_refl _) (by omega) W
  rw [Nat.mul_one] at hmk
  have kp := fun i o w h hi => rbel_h t i o w h hi hn
  go_enter Try.func27, Try.ntmps27
  go_upto_region 1 with fail
  generalize hW : World.alloc w _ = V
  have hT := TBox.start h.out hW
  obtain ⟨g, hg⟩ : ∃ g, g = w.heap.size := ⟨_, rfl⟩
  rw [← hg] at hT ⊢
  clear hW hg
  obtain ⟨k0, k1, k2⟩ := hT.cells
  have hst := Lib.hid (RowInv.start hT 0 3)
  clear hT
  go_wp2_with fail
  generalize hW : World.alloc V _ = V2 at *
  obtain ⟨q, hq⟩ : ∃ q, q = V.heap.size := ⟨_, rfl⟩
  rw [← hq] at hst ⊢
  clear hW hq k0 k1 k2 hmk
  go_loopw [4] (fun i wr => ∃ k : Nat, k ≤ t.nn ∧ i = .int .i64 k ∧ ∃ F, Hid (RowInv w g t q F wr) ∧ Hid (∀ j, j < k → F[j]? = some (lastN t.ns j t.nn : Int))) (fun i _ => t.nn - (intOf i).toNat)
  case atStart => exact ⟨0, Nat.zero_le _, rfl, _, hst, Lib.hid (fun j hj => by omega)⟩
  case round =>
    clear hst
    obtain ⟨i, hin, rfl, F, hR, hF⟩ := hrel
    obtain ⟨k0, k1, k2⟩ := hR.out.box.cells
    by_cases hlt : i < t.nn
    case neg =>
      have e : i = t.nn := by omega
      have hlt' : ¬ (i : Int) < (t.nn : Int) := by omega
      replace e := Lib.hid e
      go_wp2_with fail
      go_ret
      exact hR.out.made (fun j hj => hF.out j (by have := e.out; omega))
    have i1 : (0 : Int) ≤ (i : Int) := by omega
    have i2 : (i : Int) < (t.nn : Int) := by omega
    obtain ⟨z, hz, c0, f0⟩ := hR.out.at_ hlt
    have hR2 := Lib.hid (hR.out.set hlt (i : Int))
    have hF2 : Hid ((∀ j, j < i → (F.set i (i : Int))[j]? = some (lastN t.ns j t.nn : Int)) ∧ (F.set i (i : Int))[i]? = some (lastN t.ns i (i + 1) : Int)) := Lib.hid ⟨fun j hj => by rw [List.getElem?_set_ne (by omega)]; exact hF.out j hj, by rw [List.getElem?_set_self (by rw [hR.out.len]; exact hlt), lastN_low _ _ _ (Nat.le_refl _)]⟩
    clear hz
    go_wp2_with fail
    generalize hW : World.setCell wr _ _ = V3 at *
    clear hW c0 f0 k0 k1 k2 hR hF
    generalize F.set i (i : Int) = F2 at *
    go_loopw [5] (fun k wr => ∃ m : Nat, i < m ∧ m ≤ t.nn ∧ k = .int .i64 m ∧ ∃ F, Hid (RowInv w g t q F wr) ∧ Hid ((∀ j, j < i → F[j]? = some (lastN t.ns j t.nn : Int)) ∧ F[i]? = some (lastN t.ns i m : Int))) (fun k _ => t.nn - (intOf k).toNat)
    case atStart => exact ⟨i + 1, by omega, by omega, by go_num, _, hR2, hF2⟩
    case round =>
      clear hR2 hF2
      obtain ⟨m, hm1, hm2, rfl, F, hR, hF⟩ := hrel
      obtain ⟨k0, k1, k2⟩ := hR.out.box.cells
      by_cases hlt2 : m < t.nn
      · have hlt3 : (m : Int) < (t.nn : Int) := by omega
        have kb := kp m i wr (Lib.hid hR.out.box.at_) hlt2
        rw [bel_contains hm1] at kb
        have hsu := Lib.hid (lastN_succ t.ns i m)
        rw [show decide (i < m) = true by simpa using hm1, Bool.true_and] at hsu
        cases hbb : (chain t.ns m).contains i
        · rw [hbb] at kb hsu
          go_wp2_with (go_at_call 46; refine kb.mono ?_; rintro e w1 ⟨rfl, hb1⟩; have hR1 := Lib.hid (hR.out.below hb1))
          go_roundw
          case rel => exact ⟨m + 1, by omega, by omega, by go_num, _, hR1, Lib.hid ⟨hF.out.1, by rw [hsu.out]; exact hF.out.2⟩⟩
          case measure => simp [intOf]; omega
        · rw [hbb] at kb hsu
          go_upto_region 10 with (go_at_call 46; refine kb.mono ?_; rintro e w1 ⟨rfl, hb1⟩)
          have hR1 := hR.out.below hb1
          obtain ⟨z, hz, c0, f0⟩ := hR1.at_ hlt
          have hR3 := Lib.hid (hR1.set hlt (m : Int))
          have hF3 : Hid ((∀ j, j < i → (F.set i (m : Int))[j]? = some (lastN t.ns j t.nn : Int)) ∧ (F.set i (m : Int))[i]? = some (lastN t.ns i (m + 1) : Int)) := Lib.hid ⟨fun j hj => by rw [List.getElem?_set_ne (by omega)]; exact hF.out.1 j hj, by rw [List.getElem?_set_self (by rw [hR.out.len]; exact hlt), hsu.out]; rfl⟩
          clear hz hR1 hb1 kb k0 k1 k2
          go_wp2_with fail
          go_roundw
          case rel => exact ⟨m + 1, by omega, by omega, by go_num, _, hR3, hF3⟩
          case measure => simp [intOf]; omega
      · have e : m = t.nn := by omega
        have hlt3 : ¬ (m : Int) < (t.nn : Int) := by omega
        rw [e] at hF
        replace e := Lib.hid e
        go_wp2_with fail
        go_roundw
        case rel => exact ⟨i + 1, by omega, by go_num, _, hR, Lib.hid (fun j hj => by
          by_cases e2 : j = i
          · rw [e2]; exact hF.out.2
          · exact hF.out.1 j (by omega))⟩
        case measure => simp [intOf]; omega
end Go.Proofs.Ytcgblbbadbkdgaa
