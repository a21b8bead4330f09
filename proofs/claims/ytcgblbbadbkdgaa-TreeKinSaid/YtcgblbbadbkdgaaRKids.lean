/-
  Contracts of the document's answer: children of all nodes.
-/
import Derived.Test.YtcgblbbadbkdgaaRKin1
import Derived.Test.YtcgblbbadbkdgaaKids
namespace Go.Proofs.Ytcgblbbadbkdgaa
open Go.RowKit
set_option linter.unusedVariables false

set_option maxRecDepth 100000 in
set_option maxHeartbeats 1600000 in
theorem rkids_h (t : TreeV) (w : World) (h : Hid (TreeAt w t)) (hn : t.nn ≤ 100000) :
    Calls Try.prog 22 #[.agg #[.slice t.na t.nn t.nc, .slice t.aa t.an t.ac, .int .i64 t.view]] w fun e w' => MadeKids w t.nn (fun i => kidsN t.ns i t.nn) e w' := by
  have hmk := fun W => make_row (P := Try.prog) 42 45 (.slice none 0 0) 1 24 Try.underlying42 infoIs (by decide) t.nn t.nn (t.nn : Int) (t.nn : Int) rfl rfl (Nat.le_refl _) (by omega) W
  rw [Nat.mul_one] at hmk
  have kp := fun i w h hi => rpar_h t i w h hi hn
  go_enter Try.func22, Try.ntmps22
  go_upto_region 1 with fail
  generalize hW : World.alloc w _ = V
  have hT := TBox.start h.out hW
  obtain ⟨g, hg⟩ : ∃ g, g = w.heap.size := ⟨_, rfl⟩
  rw [← hg] at hT ⊢
  clear hW hg
  obtain ⟨k0, k1, k2⟩ := hT.cells
  have hst := Lib.hid (KidsInv.start hT 45)
  clear hT
  go_wp2_with fail
  generalize hW : World.alloc V _ = V2 at *
  obtain ⟨q, hq⟩ : ∃ q, q = V.heap.size := ⟨_, rfl⟩
  rw [← hq] at hst ⊢
  clear hW hq k0 k1 k2 hmk
  go_loopw [4] (fun i wr => ∃ k : Nat, k ≤ t.nn ∧ i = .int .i64 k ∧ ∃ vs, Hid (KidsInv w g t q vs (fun i => kidsN t.ns i k) wr)) (fun i _ => t.nn - (intOf i).toNat)
  case atStart => exact ⟨0, Nat.zero_le _, rfl, _, hst⟩
  case round =>
    clear hst
    obtain ⟨k, hk, rfl, vs, hR⟩ := hrel
    by_cases hlt : k < t.nn
    case neg =>
      have e : k = t.nn := by omega
      have hlt' : ¬ (k : Int) < (t.nn : Int) := by omega
      rw [e] at hR
      replace e := Lib.hid e
      obtain ⟨k0, k1, k2⟩ := hR.out.box.cells
      go_wp2_with fail
      go_ret
      exact hR.out.made
    have i1 : (0 : Int) ≤ (k : Int) := by omega
    have i2 : (k : Int) < (t.nn : Int) := by omega
    obtain ⟨k0, k1, k2⟩ := hR.out.box.cells
    have kk := kp k wr (Lib.hid hR.out.box.at_) hlt
    rcases parI_cases t.ns k with hp | ⟨p, hp, hpk⟩
    · rw [hp] at kk
      go_wp2_with (go_at_call 44; refine kk.mono ?_; rintro e w1 ⟨rfl, hb1⟩; replace hb1 := Lib.hid (hR.out.below hb1))
      go_roundw
      case rel => exact ⟨k + 1, by omega, by go_num, vs, Lib.hid (hb1.out.cong fun i => (kids_same (by rw [hp]; omega)).symm)⟩
      case measure => simp [intOf]; omega
    · rw [hp] at kk
      go_upto_region 7 with (go_at_call 44; refine kk.mono ?_; rintro e w1 ⟨rfl, hb1⟩)
      have hR3 := hR.out.below hb1
      have hpl : p < vs.length := by rw [hR3.len]; omega
      obtain ⟨v, hv⟩ : ∃ v, vs[p]? = some v := ⟨_, List.getElem?_eq_getElem hpl⟩
      have cp : w1.cell? ⟨q, p, none⟩ = some v := hR3.row.cell p _ hv
      have hqlt := hR3.row.lt
      have p1 : (0 : Int) ≤ (p : Int) := by omega
      have p2 : (p : Int) < (t.nn : Int) := by omega
      have hpn : ((p : Int) != -1) = true := by first | (simp; done) | (simp; omega)
      have hput := Lib.hid (fun L v' w' h3 h4 h5 => KidsInv.put (k := k) (v' := v') (w' := w') hR3 hv L h3 h4 h5)
      have hown := Lib.hid ((hR3.own p v hv).alloc (.cells ([(k : Int)].flatMap intE).toArray 3))
      have hlit := Lib.hid (Holds.lit (f := intE) w1 [(k : Int)] 3)
      have hbase : Hid (w.heap.size ≤ (w1.alloc (.cells ([(k : Int)].flatMap intE).toArray 3)).heap.size) := Lib.hid (by have := hR3.box.hb.size; simp; omega)
      have hkl : Hid ((kidsN t.ns p k).length + 1 ≤ 100000000) := Lib.hid (by have := kids_len t.ns p k; omega)
      have hrl : Hid (∀ i, (if i = p then kidsN t.ns p k ++ [(k : Int)] else kidsN t.ns i k) = kidsN t.ns i (k + 1)) := Lib.hid (fun i => by
        by_cases e : i = p
        · subst e; rw [if_pos rfl, kids_more hp]
        · rw [if_neg e, kids_same (by rw [hp]; omega)])
      clear kk hb1 hR3 k0 k1 k2 hpl hv hR
      obtain ⟨lp, hlp⟩ : ∃ lp, kidsN t.ns p k = lp := ⟨_, rfl⟩
      rw [hlp] at hput hkl hown
      go_wp2_with (at_builtin; refine append_row (f := intE) rfl (.tmp 27) (.tmp 29) 45 3 rfl _ 8 Try.underlying45 infoI rfl (by decide) (by decide) intE_len intE_one w.heap.size v lp.length lp rfl hown.out _ _ 1 1 [(k : Int)] rfl (fun h => by cases h) (Lib.hid rfl) hlit.out hkl.out hbase.out ?_; intro v' w' h3 h4 h5; obtain ⟨A2, c2, rfl, -, -⟩ := Sl.own h3 intE_len (by omega); obtain ⟨hnx, cq, fq, lq⟩ := hput.out _ _ w' h3 h4 h5; replace hnx := Lib.hid hnx; clear h3 h4 h5)
      go_roundw
      case rel => exact ⟨k + 1, by omega, by go_num, _, Lib.hid (hnx.out.cong (by rw [← hlp]; exact hrl.out))⟩
      case measure => simp [intOf]; omega
end Go.Proofs.Ytcgblbbadbkdgaa
