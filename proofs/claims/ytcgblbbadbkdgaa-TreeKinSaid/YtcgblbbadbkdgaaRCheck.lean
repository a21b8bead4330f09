/-
  Contract of the document's answer: Check.
-/
import Derived.Test.YtcgblbbadbkdgaaRNode
namespace Go.Proofs.Ytcgblbbadbkdgaa
open Go.RowKit
set_option linter.unusedVariables false

set_option maxRecDepth 100000 in
set_option maxHeartbeats 1600000 in
theorem rcheck_h (t : TreeV) (w : World) (h : Hid (TreeAt w t)) (hm : t.an ≤ 100000) (hn : t.nn ≤ 100000) :
    Calls Try.prog 19 #[.agg #[.slice t.na t.nn t.nc, .slice t.aa t.an t.ac, .int .i64 t.view]] w fun e w' => e = .returned (.tuple #[.int .i64 (checkI t.ns t.av t.view).1, .int .i64 (checkI t.ns t.av t.view).2]) ∧ Below w.heap.size w w' := by
  have hln := Lib.hid h.out.nodes.len
  have hlm := Lib.hid h.out.advs.len
  have hwh : Hid (wholeI t.ns.length t.av.length t.av t.view = if 65536 < t.nn ∨ 4096 < t.an then 7 else if t.nn = 0 ∨ ¬ (0 ≤ t.view ∧ t.view ≤ 1099511627776) then 6 else if t.av.all okI then 0 else 6) := Lib.hid (by rw [← hln.out, ← hlm.out]; rfl)
  go_enter Try.func19, Try.ntmps19
  go_upto_region 1 with fail
  generalize hW : World.alloc w _ = V
  have hT := TBox.start h.out hW
  obtain ⟨g, hg⟩ : ∃ g, g = w.heap.size := ⟨_, rfl⟩
  rw [← hg] at hT ⊢
  clear hW hg
  obtain ⟨k0, k1, k2⟩ := hT.cells
  replace hT := Lib.hid hT
  have out : ∀ e, wholeI t.ns.length t.av.length t.av t.view = e → e ≠ 0 → checkI t.ns t.av t.view = (0, e) := fun e h1 h2 => by rw [check_whole (by rw [h1]; exact h2), h1]
  by_cases h1 : 65536 < t.nn
  · have h1' : (65536 : Int) < (t.nn : Int) := by omega
    have hr := Lib.hid (out _ (hwh.out.trans (if_pos (.inl h1))) (by decide))
    go_wp2_with fail
    go_ret2
    rw [hr.out]
    exact ⟨rfl, hT.out.hb⟩
  have h1' : ¬ (65536 : Int) < (t.nn : Int) := by omega
  by_cases h2 : 4096 < t.an
  · have h2' : (4096 : Int) < (t.an : Int) := by omega
    have hr := Lib.hid (out _ (hwh.out.trans (if_pos (.inr h2))) (by decide))
    go_wp2_with fail
    go_ret2
    rw [hr.out]
    exact ⟨rfl, hT.out.hb⟩
  have h2' : ¬ (4096 : Int) < (t.an : Int) := by omega
  replace hwh := Lib.hid (hwh.out.trans (if_neg (by omega)))
  by_cases h3 : t.nn = 0
  · have h3' : ((t.nn : Int) == 0) = true := by simpa using h3
    have hr := Lib.hid (out _ (hwh.out.trans (if_pos (.inl h3))) (by decide))
    replace h3 := Lib.hid h3
    go_wp2_with fail
    go_ret2
    rw [hr.out]
    exact ⟨rfl, hT.out.hb⟩
  have h3' : ((t.nn : Int) == 0) = false := by simpa using h3
  by_cases h4 : t.view < 0
  · have hr := Lib.hid (out _ (hwh.out.trans (if_pos (.inr (by omega)))) (by decide))
    go_wp2_with fail
    go_ret2
    rw [hr.out]
    exact ⟨rfl, hT.out.hb⟩
  by_cases h5 : 1099511627776 < t.view
  · have hr := Lib.hid (out _ (hwh.out.trans (if_pos (.inr (by omega)))) (by decide))
    go_wp2_with fail
    go_ret2
    rw [hr.out]
    exact ⟨rfl, hT.out.hb⟩
  replace hwh := Lib.hid (hwh.out.trans (if_neg (by omega)))
  replace out := Lib.hid out
  clear h3 h2 h1
  go_wp2_with fail
  go_loopw [4] (fun i wr => ∃ k : Nat, k ≤ t.an ∧ i = .int .i64 k ∧ V = wr ∧ Hid ((t.av.take k).all okI = true)) (fun i _ => t.an - (intOf i).toNat)
  case atStart => exact ⟨0, Nat.zero_le _, rfl, rfl, Lib.hid rfl⟩
  case round =>
    obtain ⟨k, hk, rfl, rfl, hall⟩ := hrel
    by_cases hlt : k < t.an
    · obtain ⟨x, hx⟩ : ∃ x, t.av[k]? = some x := ⟨_, List.getElem?_eq_getElem (by rw [← hlm.out]; exact hlt)⟩
      obtain ⟨a, ha, hab, c0⟩ := hT.out.at_.advs.at_.int hx
      rw [ha] at k1
      have hi1 : (0 : Int) ≤ (k : Int) := by omega
      have hi2 : (k : Int) < (t.an : Int) := by omega
      have hnx := Lib.hid (all_take_succ (P := okI) hx)
      have hmem := Lib.hid (List.mem_of_getElem? hx)
      have hox : Hid (okI x = (decide (0 ≤ x) && decide (x ≤ 1099511627776))) := Lib.hid rfl
      have bad : okI x = false → checkI t.ns t.av t.view = (0, 6) := fun hv => out.out 6 (by
        rw [hwh.out, if_neg]
        intro hh
        rw [List.all_eq_true] at hh
        rw [hh x hmem.out] at hv
        cases hv) (by decide)
      clear hx ha
      by_cases hx1 : x < 0
      · have hr := Lib.hid (bad (by rw [hox.out]; simp; omega))
        go_wp2_with fail
        go_ret2
        rw [hr.out]
        exact ⟨rfl, hT.out.hb⟩
      by_cases hx2 : 1099511627776 < x
      · have hr := Lib.hid (bad (by rw [hox.out]; simp; omega))
        go_wp2_with fail
        go_ret2
        rw [hr.out]
        exact ⟨rfl, hT.out.hb⟩
      have hr : Hid (okI x = true) := Lib.hid (by rw [hox.out]; simp; omega)
      clear bad
      go_wp2_with fail
      go_roundw
      case rel => exact ⟨k + 1, by omega, by go_num, trivial, Lib.hid (by rw [hnx.out, hall.out, hr.out]; rfl)⟩
      case measure => simp [intOf]; omega
    · have e : k = t.an := by omega
      have hi3 : ¬ (k : Int) < (t.an : Int) := by omega
      have hw0 : Hid (wholeI t.ns.length t.av.length t.av t.view = 0) := Lib.hid (by
        rw [hwh.out, if_pos]
        have := hall.out
        rw [List.take_of_length_le (by rw [← hlm.out]; omega)] at this
        exact this)
      replace e := Lib.hid e
      clear hwh out
      go_wp2_with fail
      go_loopw [5] (fun i wr => ∃ k : Nat, k ≤ t.nn ∧ i = .int .i64 k ∧ Hid (TBox w g t wr) ∧ Hid (∀ j, j < k → nodeI t.ns j = 0)) (fun i _ => t.nn - (intOf i).toNat)
      case atStart => exact ⟨0, Nat.zero_le _, rfl, hT, Lib.hid (fun j hj => by omega)⟩
      case round =>
        clear k0 k1 k2 hT
        obtain ⟨i, hin, rfl, hT, hok⟩ := hrel
        obtain ⟨k0, k1, k2⟩ := hT.out.cells
        by_cases hlt2 : i < t.nn
        · have hlt3 : (i : Int) < (t.nn : Int) := by omega
          have kn := rnode_h t i wr (Lib.hid hT.out.at_) hlt2 hn
          by_cases hv : nodeI t.ns i = 0
          · rw [hv] at kn
            replace hv := Lib.hid hv
            go_wp2_with (go_at_call 42; refine kn.mono ?_; rintro e' w1 ⟨rfl, hb1⟩; have hT1 := Lib.hid (hT.out.below hb1))
            go_roundw
            case rel => exact ⟨i + 1, by omega, by go_num, hT1, Lib.hid (fun j hj => by
              by_cases e : j = i
              · rw [e]; exact hv.out
              · exact hok.out j (by omega))⟩
            case measure => simp [intOf]; omega
          · have hv' : (nodeI t.ns i != 0) = true := by simpa using hv
            have hr := Lib.hid (check_at (av := t.av) (view := t.view) hw0.out (by rw [← hln.out]; exact hlt2) hok.out hv)
            replace hv := Lib.hid hv
            go_wp2_with (go_at_call 42; refine kn.mono ?_; rintro e' w1 ⟨rfl, hb1⟩; have hT1 := Lib.hid (hT.out.below hb1))
            go_ret2
            rw [hr.out]
            exact ⟨rfl, hT1.out.hb⟩
        · have hlt3 : ¬ (i : Int) < (t.nn : Int) := by omega
          have hr := Lib.hid (check_ok (av := t.av) (view := t.view) hw0.out (fun j hj => hok.out j (by have := hln.out; omega)))
          go_wp2_with fail
          go_ret2
          rw [hr.out]
          exact ⟨rfl, hT.out.hb⟩
end Go.Proofs.Ytcgblbbadbkdgaa
