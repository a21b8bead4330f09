/-
  Contract of package tree: Last.
-/
import Derived.Test.YtcgblbbadbkdgaaRowInv
namespace Go.Proofs.Ytcgblbbadbkdgaa
open Go.RowKit
set_option linter.unusedVariables false

/-- What the second loop keeps. -/
def LastF (ns : List NodeV) (n i : Nat) (F : List Int) : Prop := ∀ q, q < n → ∃ m : Nat, F[q]? = some (m : Int) ∧ IsMx (Via ns n i q) m
theorem LastF.start {ns : List NodeV} {n i : Nat} {F : List Int} (hi : n ≤ i + 1) (hF : ∀ j, j < n → F[j]? = some (j : Int)) : LastF ns n i F := fun q hq => ⟨q, hF q hq, via_last hi hq⟩
theorem LastF.same {ns : List NodeV} {n i : Nat} {F : List Int} (h : LastF ns n (i + 1) F) (hp : parI ns (i + 1) = -1) : LastF ns n i F := fun q hq => by
  obtain ⟨m, h1, h2⟩ := h q hq
  exact ⟨m, h1, h2.cong (via_same (by omega))⟩
theorem LastF.more {ns : List NodeV} {n i p : Nat} {F : List Int} (h : LastF ns n (i + 1) F) (hl : F.length = n) (hi : i + 1 < n) (hp : parI ns (i + 1) = (p : Int)) :
    ∃ a b : Nat, F[p]? = some (a : Int) ∧ F[i + 1]? = some (b : Int) ∧ LastF ns n i (F.set p ((max a b : Nat) : Int)) := by
  have hpi := parI_lt ns (i + 1)
  obtain ⟨a, ha, ma⟩ := h p (by omega)
  obtain ⟨b, hb, mb⟩ := h (i + 1) hi
  refine ⟨a, b, ha, hb, fun q hq => ?_⟩
  by_cases e : q = p
  · subst e
    exact ⟨max a b, List.getElem?_set_self (by omega), via_more hp ma mb⟩
  · obtain ⟨m, h1, h2⟩ := h q hq
    exact ⟨m, by rw [List.getElem?_set_ne (by omega)]; exact h1, h2.cong (via_same (by omega))⟩
theorem max_int (a b : Nat) : max (a : Int) (b : Int) = ((max a b : Nat) : Int) := by omega

set_option maxRecDepth 100000 in
set_option maxHeartbeats 1600000 in
theorem last_h (t : TreeV) (w : World) (h : Hid (TreeAt w t)) (hn : t.nn ≤ 100000) :
    Calls Try.prog 26 #[.agg #[.slice t.na t.nn t.nc, .slice t.aa t.an t.ac, .int .i64 t.view]] w fun e w' => MadeI w t.nn (fun i => (lastN t.ns i t.nn : Int)) e w' := by
  have hmk := fun W => make_row (P := Try.prog) 45 3 (.int .i64 0) 1 8 Try.underlying45 infoI (by decide) t.nn t.nn (t.nn : Int) (t.nn : Int) rfl rfl (Nat.le_refl _) (by omega) W
  rw [Nat.mul_one] at hmk
  have kp := fun i w h hi => parent_h t i w h hi hn
  go_enter Try.func26, Try.ntmps26
  go_upto_region 1 with fail
  generalize hW : World.alloc w _ = V
  have hT := TBox.start h.out hW
  obtain ⟨g, hg⟩ : ∃ g, g = w.heap.size := ⟨_, rfl⟩
  rw [← hg] at hT ⊢
  clear hW hg
  obtain ⟨k0, k1, k2⟩ := hT.cells
  have hst := Lib.hid (RowInv.start hT 0 3)
  clear hT
  go_wp2_with fail
  generalize hW : World.alloc V _ = V2 at *
  obtain ⟨q, hq⟩ : ∃ q, q = V.heap.size := ⟨_, rfl⟩
  rw [← hq] at hst ⊢
  clear hW hq k0 k1 k2 hmk
  go_loopw [13] (fun i wr => ∃ k : Nat, k ≤ t.nn ∧ i = .int .i64 k ∧ ∃ F, Hid (RowInv w g t q F wr) ∧ Hid (∀ j, j < k → F[j]? = some (j : Int))) (fun i _ => t.nn - (intOf i).toNat)
  case atStart => exact ⟨0, Nat.zero_le _, rfl, _, hst, Lib.hid (fun j hj => by omega)⟩
  case round =>
    clear hst
    obtain ⟨k, hk, rfl, F, hR, hF⟩ := hrel
    by_cases hlt : k < t.nn
    · have i1 : (0 : Int) ≤ (k : Int) := by omega
      have i2 : (k : Int) < (t.nn : Int) := by omega
      obtain ⟨z, hz, c0, f0⟩ := hR.out.at_ hlt
      have hR2 := Lib.hid (hR.out.set hlt (k : Int))
      clear hz
      go_wp2_with fail
      go_roundw
      case rel => exact ⟨k + 1, by omega, by go_num, _, hR2, Lib.hid (fun j hj => by
        by_cases e : j = k
        · subst e; rw [List.getElem?_set_self (by rw [hR.out.len]; exact hlt)]
        · rw [List.getElem?_set_ne (by omega)]; exact hF.out j (by omega))⟩
      case measure => simp [intOf]; omega
    have e : k = t.nn := by omega
    have hlt' : ¬ (k : Int) < (t.nn : Int) := by omega
    rw [e] at hF
    have hst := Lib.hid (LastF.start (ns := t.ns) (i := ((t.nn : Int) - 1).toNat) (by omega) hF.out)
    replace e := Lib.hid e
    clear hF
    go_wp2_with fail
    go_loopw [5] (fun i wr => ∃ k : Int, -1 ≤ k ∧ k < t.nn ∧ i = .int .i64 k ∧ ∃ F, Hid (RowInv w g t q F wr) ∧ Hid (LastF t.ns t.nn k.toNat F) ∧ Hid (k = -1 → t.nn = 0)) (fun i _ => (intOf i).toNat)
    case atStart => exact ⟨(t.nn : Int) - 1, by omega, by omega, rfl, F, hR, hst, Lib.hid (by omega)⟩
    case round =>
      clear hst hR
      obtain ⟨k, hk1, hk2, rfl, F, hR, hF, h00⟩ := hrel
      by_cases hpos : 0 < k
      case neg =>
        go_wp2_with fail
        go_ret
        refine hR.out.made (fun j hj => ?_)
        have hk0 : k.toNat = 0 := by omega
        obtain ⟨m, h1, h2⟩ := hF.out j hj
        rw [hk0] at h2
        rw [h1, lastN_is hj h2]
      obtain ⟨i, rfl⟩ : ∃ i : Nat, k = ((i + 1 : Nat) : Int) := ⟨k.toNat - 1, by omega⟩
      rw [Int.toNat_natCast] at hF
      obtain ⟨i', hi'⟩ : ∃ i', i + 1 = i' := ⟨_, rfl⟩
      have hlt : i' < t.nn := by omega
      obtain ⟨k0, k1, k2⟩ := hR.out.box.cells
      have kk := kp i' wr (Lib.hid hR.out.box.at_) hlt
      have i1 : (0 : Int) ≤ (i' : Int) := by omega
      have i2 : (i' : Int) < (t.nn : Int) := by omega
      have i3 : (0 : Int) < (i' : Int) := by omega
      rcases parI_cases t.ns i' with hp | ⟨p, hp, hpk⟩
      · rw [hp] at kk
        have hF2 := Lib.hid (hF.out.same (by rw [hi']; exact hp))
        replace hi' := Lib.hid hi'
        rw [hi'.out]
        go_wp2_with (go_at_call 43; refine kk.mono ?_; rintro e w1 ⟨rfl, hb1⟩; replace hb1 := Lib.hid (hR.out.below hb1))
        go_roundw
        case rel => exact ⟨(i : Int), by omega, by have := hi'.out; omega, congrArg (Value.int .i64) (by have := hi'.out; omega), _, hb1, Lib.hid (by rw [Int.toNat_natCast]; exact hF2.out), Lib.hid (by omega)⟩
        case measure => simp [intOf]; omega
      · rw [hp] at kk
        obtain ⟨a, b, ha, hb, hF2⟩ := hF.out.more hR.out.len (by omega) (by rw [hi']; exact hp)
        rw [hi'] at hb
        replace hF2 := Lib.hid hF2
        replace hi' := Lib.hid hi'
        rw [hi'.out]
        go_upto_region 12 with (go_at_call 43; refine kk.mono ?_; rintro e w1 ⟨rfl, hb1⟩)
        have hR3 := hR.out.below hb1
        have cp : w1.cell? ⟨q, p, none⟩ = some (.int .i64 (a : Int)) := hR3.row.at_ ha
        have ci : w1.cell? ⟨q, i', none⟩ = some (.int .i64 (b : Int)) := hR3.row.at_ hb
        have fp := hR3.row.free_ (i := p) (by rw [hR.out.len]; omega)
        have p1 : (0 : Int) ≤ (p : Int) := by omega
        have p2 : (p : Int) < (t.nn : Int) := by omega
        have hR4 := Lib.hid (hR3.set (i := p) (by omega) ((max a b : Nat) : Int))
        rw [← max_int] at hR4 hF2
        clear kk hb1 hR3 k0 k1 k2 ha hb
        go_region
        all_goals (go_wp2_with fail)
        all_goals go_roundw
        case rel => exact ⟨(i : Int), by omega, by have := hi'.out; omega, congrArg (Value.int .i64) (by have := hi'.out; omega), _, Lib.hid (hR4.out.below (Below.refl _ _).drew), Lib.hid (by rw [Int.toNat_natCast]; exact hF2.out), Lib.hid (by omega)⟩
        case measure => simp [intOf]; omega
end Go.Proofs.Ytcgblbbadbkdgaa
