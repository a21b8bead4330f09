/-
  Contract of package tree: Depths.
-/
import Derived.Test.YtcgblbbadbkdgaaRowInv
namespace Go.Proofs.Ytcgblbbadbkdgaa
open Go.RowKit
set_option linter.unusedVariables false

set_option maxRecDepth 100000 in
set_option maxHeartbeats 1600000 in
theorem depths_h (t : TreeV) (w : World) (h : Hid (TreeAt w t)) (hn : t.nn ≤ 100000) :
    Calls Try.prog 24 #[.agg #[.slice t.na t.nn t.nc, .slice t.aa t.an t.ac, .int .i64 t.view]] w fun e w' => MadeI w t.nn (fun i => (dep t.ns i : Int)) e w' := by
  have hmk := fun W => make_row (P := Try.prog) 45 3 (.int .i64 0) 1 8 Try.underlying45 infoI (by decide) t.nn t.nn (t.nn : Int) (t.nn : Int) rfl rfl (Nat.le_refl _) (by omega) W
  rw [Nat.mul_one] at hmk
  have kp := fun i w h hi => parent_h t i w h hi hn
  go_enter Try.func24, Try.ntmps24
  go_upto_region 1 with fail
  generalize hW : World.alloc w _ = V
  have hT := TBox.start h.out hW
  obtain ⟨g, hg⟩ : ∃ g, g = w.heap.size := ⟨_, rfl⟩
  rw [← hg] at hT ⊢
  clear hW hg
  obtain ⟨k0, k1, k2⟩ := hT.cells
  have hst := Lib.hid (RowInv.start hT 0 3)
  clear hT
  go_wp2_with fail
  generalize hW : World.alloc V _ = V2 at *
  obtain ⟨q, hq⟩ : ∃ q, q = V.heap.size := ⟨_, rfl⟩
  rw [← hq] at hst ⊢
  clear hW hq k0 k1 k2 hmk
  go_loopw [12] (fun i wr => ∃ k : Nat, k ≤ t.nn ∧ i = .int .i64 k ∧ ∃ F, Hid (RowInv w g t q F wr) ∧ Hid (∀ j, j < k → F[j]? = some (dep t.ns j : Int))) (fun i _ => t.nn - (intOf i).toNat)
  case atStart => exact ⟨0, Nat.zero_le _, rfl, _, hst, Lib.hid (fun j hj => by omega)⟩
  case round =>
    clear hst
    obtain ⟨k, hk, rfl, F, hR, hF⟩ := hrel
    by_cases hlt : k < t.nn
    case neg =>
      have e : k = t.nn := by omega
      have hlt' : ¬ (k : Int) < (t.nn : Int) := by omega
      replace e := Lib.hid e
      go_wp2_with fail
      go_ret
      exact hR.out.made (fun j hj => hF.out j (by have := e.out; omega))
    have i1 : (0 : Int) ≤ (k : Int) := by omega
    have i2 : (k : Int) < (t.nn : Int) := by omega
    obtain ⟨z, hz, c0, f0⟩ := hR.out.at_ hlt
    have hR2 := hR.out.set hlt 1
    obtain ⟨k0, k1, k2⟩ := hR2.box.cells
    have kk := kp k _ (Lib.hid hR2.box.at_) hlt
    replace hR2 := Lib.hid hR2
    clear hz
    rcases parI_cases t.ns k with hp | ⟨p, hp, hpk⟩
    · have hd := dep_none hp
      rw [hp] at kk
      go_upto_region 6 with fail
      generalize hW : World.setCell wr _ _ = V3 at *
      clear hW c0 f0
      go_wp2_with (go_at_call 43; refine kk.mono ?_; rintro e w1 ⟨rfl, hb1⟩; replace hb1 := Lib.hid (hR2.out.below hb1))
      go_roundw
      case rel => exact ⟨k + 1, by omega, by go_num, _, hb1, Lib.hid (fun j hj => by
        by_cases e : j = k
        · subst e; rw [List.getElem?_set_self (by rw [hR.out.len]; exact hlt), hd]; rfl
        · rw [List.getElem?_set_ne (by omega)]; exact hF.out j (by omega))⟩
      case measure => simp [intOf]; omega
    · have hd := Lib.hid (dep_some hp)
      have hdl := dep_le t.ns p
      rw [hp] at kk
      go_upto_region 6 with fail
      generalize hW : World.setCell wr _ _ = V3 at *
      clear hW c0 f0 k0 k1 k2
      obtain ⟨k0, k1, k2⟩ := hR2.out.box.cells
      go_upto_region 8 with (go_at_call 43; refine kk.mono ?_; rintro e w1 ⟨rfl, hb1⟩)
      have hR3 := hR2.out.below hb1
      have cp : w1.cell? ⟨q, p, none⟩ = some (.int .i64 (dep t.ns p : Int)) := hR3.row.at_ (by rw [List.getElem?_set_ne (by omega)]; exact hF.out p hpk)
      have ck : w1.cell? ⟨q, k, none⟩ = some (.int .i64 1) := hR3.row.at_ (by rw [List.getElem?_set_self (by rw [hR.out.len]; exact hlt)])
      have fk := hR3.row.free_ (i := k) (by rw [List.length_set, hR.out.len]; exact hlt)
      have p1 : (0 : Int) ≤ (p : Int) := by omega
      have p2 : (p : Int) < (t.nn : Int) := by omega
      have hR4 := Lib.hid (hR3.set hlt ((dep t.ns p : Int) + 1))
      obtain ⟨dp, hdp⟩ : ∃ dp, dep t.ns p = dp := ⟨_, rfl⟩
      rw [hdp] at cp hR4 hd hdl
      have hdl2 : dp ≤ 100000 := by omega
      clear kk hb1 hR2 hdp k0 k1 k2 hR3
      go_wp2_with fail
      go_roundw
      case rel => exact ⟨k + 1, by omega, by go_num, _, hR4, Lib.hid (fun j hj => by
        by_cases e : j = k
        · subst e; rw [List.getElem?_set_self (by rw [List.length_set, hR.out.len]; exact hlt), hd.out]; simp
        · rw [List.getElem?_set_ne (by omega), List.getElem?_set_ne (by omega)]; exact hF.out j (by omega))⟩
      case measure => simp [intOf]; omega
end Go.Proofs.Ytcgblbbadbkdgaa
