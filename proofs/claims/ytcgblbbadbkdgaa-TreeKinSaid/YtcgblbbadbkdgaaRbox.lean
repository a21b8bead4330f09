/-
  Contract of the document's answer, of the style of a box.
-/
import Derived.Test.YtcgblbbadbkdgaaRmay
import Derived.Test.YtcgblbbadbkdgaaRight2
import Derived.Deep.DeepCutAuto
import Derived.BigGuard
namespace Go.Proofs.Ytcgblbbadbkdgaa
open Go.RowKit

theorem wide_may (l : LenV) : mayB l (lowPx false) (lowPart false) = wideB l := rfl
theorem margin_may (l : LenV) : mayB l (lowPx true) (lowPart true) = marginB l := rfl

/-- What the first loop asks of each edge. -/
def edgeOk (s : Style) (k : Nat) : Bool := marginB (s.margins.getD k ⟨0, 0⟩) && edgeB (s.borders.getD k 0) && edgeB (s.paddings.getD k 0)
def sidesB (s : Style) : Bool := decide (s.float ≤ 2) && decide (s.clear ≤ 3)
def placesB (s : Style) : Bool := decide (s.align ≤ 2) && decide (s.justify ≤ 3) && decide (s.items ≤ 3)
def factorsB (s : Style) : Bool := decide (0 ≤ s.grow) && decide (s.grow ≤ 60) && decide (0 ≤ s.shrink) && decide (s.shrink ≤ 60)
def lastB (s : Style) : Bool := decide (0 ≤ s.line) && decide (s.line ≤ 1099511627776) && decide (-1048576 ≤ s.order) && decide (s.order ≤ 1048576) && decide (s.un = 0)
def wides (s : Style) : List LenV := [s.w, s.minW, s.maxW, s.basis]
def highs (s : Style) : List LenV := [s.h, s.minH, s.maxH]
theorem range13 : List.range 13 = [0, 1, 2, 3, 4, 5, 6, 7, 8, 9, 10, 11, 12] := rfl
theorem box_edge (s : Style) (k : Nat) (hk : k < 4) (h : edgeOk s k = false) : boxB s = false := by
  rw [← Bool.not_eq_true]
  intro hb
  unfold boxB at hb
  rw [range13] at hb
  simp only [List.all_cons, List.all_nil, Bool.and_eq_true, rule, Style.margins, Style.borders, Style.paddings] at hb
  match k, hk, h with
  | 0, _, h | 1, _, h | 2, _, h | 3, _, h => simp [edgeOk, Style.margins, Style.borders, Style.paddings, hb] at h
theorem box_wide (s : Style) (h : (wides s).all wideB = false) : boxB s = false := by
  rw [← Bool.not_eq_true]
  intro hb
  unfold boxB at hb
  rw [range13] at hb
  simp only [List.all_cons, List.all_nil, Bool.and_eq_true, rule] at hb
  simp [wides, hb] at h
theorem box_high (s : Style) (h : (highs s).all highB = false) : boxB s = false := by
  rw [← Bool.not_eq_true]
  intro hb
  unfold boxB at hb
  rw [range13] at hb
  simp only [List.all_cons, List.all_nil, Bool.and_eq_true, rule] at hb
  simp [highs, hb] at h
theorem box_all (s : Style) (h1 : ∀ k, k < 4 → edgeOk s k = true) (h2 : (wides s).all wideB = true) (h3 : (highs s).all highB = true) : boxB s = (sidesB s && placesB s && factorsB s && lastB s) := by
  have e0 := h1 0 (by omega)
  have e1 := h1 1 (by omega)
  have e2 := h1 2 (by omega)
  have e3 := h1 3 (by omega)
  simp [edgeOk, Style.margins, Style.borders, Style.paddings] at e0 e1 e2 e3
  simp only [wides, highs, List.all_cons, List.all_nil, Bool.and_true, Bool.and_eq_true] at h2 h3
  unfold boxB
  rw [range13]
  simp only [List.all_cons, List.all_nil, rule, Style.margins, Style.borders, Style.paddings, e0, e1, e2, e3, h2, h3, Bool.and_true, Bool.true_and]
  simp only [sidesB, placesB, factorsB, lastB, choiceB, factorB, edgeB, betweenB]
  generalize decide (s.float ≤ 2) = a1
  generalize decide (s.clear ≤ 3) = a2
  generalize decide (s.align ≤ 2) = a3
  generalize decide (s.justify ≤ 3) = a4
  generalize decide (s.items ≤ 3) = a5
  generalize decide (0 ≤ s.grow) = a6
  generalize decide (s.grow ≤ 60) = a7
  generalize decide (0 ≤ s.shrink) = a8
  generalize decide (s.shrink ≤ 60) = a9
  generalize decide (0 ≤ s.line) = a10
  generalize decide (s.line ≤ 1099511627776) = a11
  generalize decide (-1048576 ≤ s.order) = a12
  generalize decide (s.order ≤ 1048576) = a13
  generalize decide (s.un = 0) = a14
  cases a1 <;> cases a2 <;> cases a3 <;> cases a4 <;> cases a5 <;> simp <;> cases a6 <;> cases a7 <;> cases a8 <;> cases a9 <;> simp [Bool.and_assoc]

theorem add_mid (g o j : Nat) : (Addr.add ⟨g, o, none⟩ j) = ⟨g, o + j, none⟩ := by unfold Addr.add; by_cases h : j = 0 <;> simp [h]
/-- The cells of an edge. -/
theorem edge_cells {w : World} {g : Nat} {s : Style} (h : AtS w g s) {k : Nat} (hk : k < 4) :
    w.cell? ⟨g, 16 + k * 2, none⟩ = some (.int .u8 (s.margins.getD k ⟨0, 0⟩).k) ∧ w.cell? ⟨g, 16 + k * 2 + 1, none⟩ = some (.int .i64 (s.margins.getD k ⟨0, 0⟩).n) ∧
    w.cell? ⟨g, 24 + k, none⟩ = some (.int .i64 (s.borders.getD k 0)) ∧ w.cell? ⟨g, 28 + k, none⟩ = some (.int .i64 (s.paddings.getD k 0)) := by
  match k, hk with
  | 0, _ => exact ⟨h.2 16 _ rfl, h.2 17 _ rfl, h.2 24 _ rfl, h.2 28 _ rfl⟩
  | 1, _ => exact ⟨h.2 18 _ rfl, h.2 19 _ rfl, h.2 25 _ rfl, h.2 29 _ rfl⟩
  | 2, _ => exact ⟨h.2 20 _ rfl, h.2 21 _ rfl, h.2 26 _ rfl, h.2 30 _ rfl⟩
  | 3, _ => exact ⟨h.2 22 _ rfl, h.2 23 _ rfl, h.2 27 _ rfl, h.2 31 _ rfl⟩

set_option maxRecDepth 100000 in
set_option maxHeartbeats 3200000 in
theorem rbox_any (s : Style) (w : World) : Calls Try.prog 36 #[styV s] w fun e w' => e = .returned (.bool (boxB s)) ∧ Below w.heap.size w w' := by
  unfold styV
  obtain ⟨L, hL⟩ : ∃ L, (styE s).toArray = L := ⟨_, rfl⟩
  rw [hL]
  have hA := Lib.hid (show AtS (w.alloc (.cells L 28)) w.heap.size s by rw [← hL]; exact at_new w s _)
  have hb0 := Lib.hid ((Below.refl w.heap.size w).alloc (Nat.le_refl _) (.cells L 28))
  clear hL
  have hst : Hid (Below w.heap.size w (w.alloc (.cells L 28)) ∧ AtS (w.alloc (.cells L 28)) w.heap.size s ∧ ∀ j, j < 0 → edgeOk s j = true) := Lib.hid ⟨hb0.out, hA.out, fun j hj => absurd hj (Nat.not_lt_zero j)⟩
  clear hA hb0
  go_enter Try.func36, Try.ntmps36
  go_wp2_with fail
  go_loopw [3] (fun i wr => ∃ k : Nat, k ≤ 4 ∧ i = .int .i64 k ∧ Hid (Below w.heap.size w wr ∧ AtS wr w.heap.size s ∧ ∀ j, j < k → edgeOk s j = true)) (fun i _ => 4 - (intOf i).toNat)
  case atStart => exact ⟨0, Nat.zero_le _, rfl, hst⟩
  case round =>
    obtain ⟨k, hk, rfl, hinv⟩ := hrel
    by_cases hlt : k < 4
    · obtain ⟨c0, c1, c2, c3⟩ := edge_cells hinv.out.2.1 hlt
      have hi1 : (0 : Int) ≤ (k : Int) := by omega
      have hi2 : (k : Int) < 4 := by omega
      obtain ⟨M, hM⟩ : ∃ M, s.margins.getD k ⟨0, 0⟩ = M := ⟨_, rfl⟩
      obtain ⟨B, hB⟩ : ∃ B, s.borders.getD k 0 = B := ⟨_, rfl⟩
      obtain ⟨P, hP⟩ : ∃ P, s.paddings.getD k 0 = P := ⟨_, rfl⟩
      have he : edgeOk s k = (marginB M && edgeB B && edgeB P) := by unfold edgeOk; rw [hM, hB, hP]
      have hc := fun w => rmay_any M true w
      rw [margin_may] at hc
      rw [hM] at c0 c1
      rw [hB] at c2
      rw [hP] at c3
      clear hM
      replace hB := Lib.hid hB
      replace hP := Lib.hid hP
      cases hq : marginB M with
      | false =>
        rw [hq] at hc
        have hres := Lib.hid (box_edge s k hlt (by rw [he, hq]; rfl))
        clear he hq
        go_wp2_with (go_at_call 78; refine (hc _).mono ?_; rintro e w1 ⟨rfl, hb1⟩)
        go_ret
        exact ⟨by rw [hres.out]; rfl, hinv.out.1.trans (hb1.mono hinv.out.1.size)⟩
      | true =>
        rw [hq] at hc
        rw [hq, Bool.true_and] at he
        clear hq
        go_wp2_with fail
        refine (hc _).mono ?_; rintro e w1 ⟨rfl, hb1⟩
        have hn := Lib.hid (show Below w.heap.size w w1 ∧ AtS w1 w.heap.size s ∧ ∀ j, j < k → edgeOk s j = true from ⟨hinv.out.1.trans (hb1.mono hinv.out.1.size), hinv.out.2.1.below hb1, hinv.out.2.2⟩)
        clear hb1 hc c0 c1 c2 c3 hinv
        obtain ⟨c0, c1, c2, c3⟩ := edge_cells hn.out.2.1 hlt
        rw [hB.out] at c2
        rw [hP.out] at c3
        clear c0 c1
        by_cases q1 : B < 0
        · have hres := Lib.hid (box_edge s k hlt (by rw [he]; simp [edgeB, betweenB]; omega))
          go_wp2_with fail
          go_ret
          exact ⟨by rw [hres.out]; rfl, hn.out.1⟩
        by_cases q2 : 1099511627776 < B
        · have hres := Lib.hid (box_edge s k hlt (by rw [he]; simp [edgeB, betweenB]; omega))
          go_wp2_with fail
          go_ret
          exact ⟨by rw [hres.out]; rfl, hn.out.1⟩
        by_cases q3 : P < 0
        · have hres := Lib.hid (box_edge s k hlt (by rw [he]; simp [edgeB, betweenB]; omega))
          go_wp2_with fail
          go_ret
          exact ⟨by rw [hres.out]; rfl, hn.out.1⟩
        by_cases q4 : 1099511627776 < P
        · have hres := Lib.hid (box_edge s k hlt (by rw [he]; simp [edgeB, betweenB]; omega))
          go_wp2_with fail
          go_ret
          exact ⟨by rw [hres.out]; rfl, hn.out.1⟩
        · have hnew : Hid (Below w.heap.size w w1 ∧ AtS w1 w.heap.size s ∧ ∀ j, j < k + 1 → edgeOk s j = true) := Lib.hid ⟨hn.out.1, hn.out.2.1, fun j hj => by
            by_cases e : j = k
            · subst e
              rw [he]
              simp [edgeB, betweenB]
              omega
            · exact hn.out.2.2 j (by omega)⟩
          clear hn he
          go_wp2_with fail
          go_roundw
          case rel => exact ⟨k + 1, by omega, by go_num, hnew⟩
          case measure => simp [intOf]; omega
    · have hk4 : k = 4 := by omega
      subst hk4
      have h1 := Lib.hid hinv.out.2.2
      obtain ⟨hb0, hA0⟩ : Hid (Below w.heap.size w wr) ∧ Hid (AtS wr w.heap.size s) := ⟨Lib.hid hinv.out.1, Lib.hid hinv.out.2.1⟩
      clear hinv
      have c4 := hA0.out.2 4 _ rfl
      have c5 := hA0.out.2 5 _ rfl
      have c6 := hA0.out.2 6 _ rfl
      have c7 := hA0.out.2 7 _ rfl
      have c8 := hA0.out.2 8 _ rfl
      have c9 := hA0.out.2 9 _ rfl
      have c10 := hA0.out.2 10 _ rfl
      have c11 := hA0.out.2 11 _ rfl
      have c12 := hA0.out.2 12 _ rfl
      have c13 := hA0.out.2 13 _ rfl
      have c14 := hA0.out.2 14 _ rfl
      have c15 := hA0.out.2 15 _ rfl
      have c40 := hA0.out.2 40 _ rfl
      have c41 := hA0.out.2 41 _ rfl
      have hlt0 := hA0.out.1
      go_wp2_with fail
      generalize hW : World.alloc (World.alloc wr _) _ = W1
      obtain ⟨hA1, hS1, hS2, hb1⟩ : AtS W1 w.heap.size s ∧ Holds lenE W1 W1.heap.size (some ⟨wr.heap.size, 0, none⟩) (wides s) ∧ Holds lenE W1 W1.heap.size (some ⟨wr.heap.size + 1, 0, none⟩) (highs s) ∧ Below w.heap.size w W1 := by
        subst hW
        refine ⟨(hA0.out.below ((Below.refl _ _).alloc (Nat.le_refl _) _)).below ((Below.refl _ _).alloc (Nat.le_refl _) _), (Holds.lit (f := lenE) wr (wides s) _).below ((Below.refl _ _).alloc (Nat.le_refl _) _), ?_, (hb0.out.alloc hb0.out.size _).alloc (by have := hb0.out.size; simp; omega) _⟩
        have h := Holds.lit (f := lenE) (wr.alloc (.cells ((wides s).flatMap lenE).toArray 23)) (highs s) 23
        have e : (wr.alloc (.cells ((wides s).flatMap lenE).toArray 23)).heap.size = wr.heap.size + 1 := by simp
        rw [e] at h
        exact h
      clear hW c4 c5 c6 c7 c8 c9 c10 c11 c12 c13 c14 c15 c40 c41 hA0 hb0
      generalize wr.heap.size = gw at *
      have hst2 : Hid (Below w.heap.size w W1 ∧ AtS W1 w.heap.size s ∧ Holds lenE W1 W1.heap.size (some ⟨gw, 0, none⟩) (wides s) ∧ Holds lenE W1 W1.heap.size (some ⟨gw + 1, 0, none⟩) (highs s) ∧ ((wides s).take 0).all wideB = true) := Lib.hid ⟨hb1, hA1, hS1, hS2, rfl⟩
      clear hA1 hS1 hS2 hb1 hlt0
      go_wp2_with fail
      go_loopw [6] (fun i wr => ∃ k : Nat, k ≤ 4 ∧ i = .int .i64 k ∧ Hid (Below w.heap.size w wr ∧ AtS wr w.heap.size s ∧ Holds lenE wr wr.heap.size (some ⟨gw, 0, none⟩) (wides s) ∧ Holds lenE wr wr.heap.size (some ⟨gw + 1, 0, none⟩) (highs s) ∧ ((wides s).take k).all wideB = true)) (fun i _ => 4 - (intOf i).toNat)
      case atStart => exact ⟨0, Nat.zero_le _, rfl, hst2⟩
      case round =>
        obtain ⟨k, hk, rfl, hinv⟩ := hrel
        by_cases hlt : k < 4
        · have hkl : k < (wides s).length := hlt
          obtain ⟨x, hx⟩ : ∃ x, (wides s)[k]? = some x := ⟨(wides s)[k], List.getElem?_eq_getElem hkl⟩
          obtain ⟨a, ha, hab, hc⟩ := hinv.out.2.2.1.get lenE_len hx
          obtain rfl := Option.some.inj ha
          have c0 := hc 0 _ rfl
          have c1 := hc 1 _ rfl
          simp only [Nat.add_zero, add_zero_] at c0
          rw [add_zero_] at c1
          have htk : Hid (((wides s).take (k + 1)).all wideB = wideB x) := Lib.hid (by
            rw [List.take_add_one, List.all_append, hinv.out.2.2.2.2, hx]; simp)
          have hres : Hid (wideB x = false → boxB s = false) := Lib.hid (fun hf => box_wide s (by
            rw [List.all_eq_false]
            exact ⟨x, List.mem_of_getElem? hx, by simp [hf]⟩))
          clear hc hx hkl ha
          have hi1 : (0 : Int) ≤ (k : Int) := by omega
          have hi2 : (k : Int) < 4 := by omega
          have hcall := fun w => rmay_any x false w
          rw [wide_may] at hcall
          cases hq : wideB x with
          | false =>
            rw [hq] at hcall
            replace hres := Lib.hid (hres.out hq)
            go_wp2_with (go_at_call 78; refine (hcall _).mono ?_; rintro e w1 ⟨rfl, hb1⟩)
            go_ret
            exact ⟨by rw [hres.out]; rfl, hinv.out.1.trans (hb1.mono hinv.out.1.size)⟩
          | true =>
            rw [hq] at hcall
            rw [hq] at htk
            go_wp2_with (go_at_call 78; refine (hcall _).mono ?_; rintro e w1 ⟨rfl, hb1⟩)
            have hnew : Hid (Below w.heap.size w w1 ∧ AtS w1 w.heap.size s ∧ Holds lenE w1 w1.heap.size (some ⟨gw, 0, none⟩) (wides s) ∧ Holds lenE w1 w1.heap.size (some ⟨gw + 1, 0, none⟩) (highs s) ∧ ((wides s).take (k + 1)).all wideB = true) :=
              Lib.hid ⟨hinv.out.1.trans (hb1.mono hinv.out.1.size), hinv.out.2.1.below hb1, hinv.out.2.2.1.below hb1, hinv.out.2.2.2.1.below hb1, htk.out⟩
            clear hb1 hcall hinv
            go_wp2_with fail
            go_roundw
            case rel => (repeat apply Exists.intro); exact ⟨⟨k + 1, by omega, by go_num, hnew⟩, rfl⟩
            case measure => simp [intOf]; omega
        · have hk4 : k = 4 := by omega
          subst hk4
          have h2 : Hid ((wides s).all wideB = true) := Lib.hid hinv.out.2.2.2.2
          have hst3 : Hid (Below w.heap.size w wr ∧ AtS wr w.heap.size s ∧ Holds lenE wr wr.heap.size (some ⟨gw + 1, 0, none⟩) (highs s) ∧ ((highs s).take 0).all highB = true) := Lib.hid ⟨hinv.out.1, hinv.out.2.1, hinv.out.2.2.2.1, rfl⟩
          clear hinv
          go_wp2_with fail
          go_loopw [7] (fun i wr => ∃ k : Nat, k ≤ 3 ∧ i = .int .i64 k ∧ Hid (Below w.heap.size w wr ∧ AtS wr w.heap.size s ∧ Holds lenE wr wr.heap.size (some ⟨gw + 1, 0, none⟩) (highs s) ∧ ((highs s).take k).all highB = true)) (fun i _ => 3 - (intOf i).toNat)
          case atStart => exact ⟨0, Nat.zero_le _, rfl, hst3⟩
          case round =>
            obtain ⟨k, hk, rfl, hinv⟩ := hrel
            by_cases hlt : k < 3
            · have hkl : k < (highs s).length := hlt
              obtain ⟨x, hx⟩ : ∃ x, (highs s)[k]? = some x := ⟨(highs s)[k], List.getElem?_eq_getElem hkl⟩
              have htk : Hid (((highs s).take (k + 1)).all highB = highB x) := Lib.hid (by
                rw [List.take_add_one, List.all_append, hinv.out.2.2.2, hx]; simp)
              have hres : Hid (highB x = false → boxB s = false) := Lib.hid (fun hf => box_high s (by
                rw [List.all_eq_false]
                exact ⟨x, List.mem_of_getElem? hx, by simp [hf]⟩))
              have hcells : ∀ {W : World}, Holds lenE W W.heap.size (some ⟨gw + 1, 0, none⟩) (highs s) → W.cell? ⟨gw + 1, k * 2, none⟩ = some (.int .u8 x.k) ∧ W.cell? ⟨gw + 1, k * 2 + 1, none⟩ = some (.int .i64 x.n) := fun hH => by
                obtain ⟨a, ha, hab, hc⟩ := hH.get lenE_len hx
                obtain rfl := Option.some.inj ha
                have c0 := hc 0 _ rfl
                have c1 := hc 1 _ rfl
                simp only [Nat.add_zero, add_zero_] at c0
                rw [add_zero_] at c1
                exact ⟨c0, c1⟩
              obtain ⟨c0, c1⟩ := hcells hinv.out.2.2.1
              replace hcells := Lib.hid (fun W => @hcells W)
              clear hx hkl
              have hi1 : (0 : Int) ≤ (k : Int) := by omega
              have hi2 : (k : Int) < 3 := by omega
              have hcall := fun w => rmay_any x false w
              rw [wide_may] at hcall
              have hh : highB x = (decide (x.k ≠ 2) && wideB x) := rfl
              cases hq : wideB x with
              | false =>
                rw [hq] at hcall
                replace hres := Lib.hid (hres.out (by rw [hh, hq, Bool.and_false]))
                go_wp2_with (go_at_call 78; refine (hcall _).mono ?_; rintro e w1 ⟨rfl, hb1⟩)
                go_ret
                exact ⟨by rw [hres.out]; rfl, hinv.out.1.trans (hb1.mono hinv.out.1.size)⟩
              | true =>
                rw [hq] at hcall
                rw [hq, Bool.and_true] at hh
                go_wp2_with fail
                refine (hcall _).mono ?_; rintro e w1 ⟨rfl, hb1⟩
                have hn := Lib.hid (show Below w.heap.size w w1 ∧ AtS w1 w.heap.size s ∧ Holds lenE w1 w1.heap.size (some ⟨gw + 1, 0, none⟩) (highs s) from ⟨hinv.out.1.trans (hb1.mono hinv.out.1.size), hinv.out.2.1.below hb1, hinv.out.2.2.1.below hb1⟩)
                clear hb1 hcall c0 c1 hinv
                obtain ⟨c0, c1⟩ := hcells.out w1 hn.out.2.2
                by_cases h2k : x.k = 2
                · have hk2 : (x.k == 2) = true := by simpa using h2k
                  replace hres := Lib.hid (hres.out (by rw [hh]; simp [h2k]))
                  clear h2k hh
                  go_wp2_with fail
                  go_ret
                  exact ⟨by rw [hres.out]; rfl, hn.out.1⟩
                · have hk2 : (x.k == 2) = false := by simpa using h2k
                  have hnew : Hid (Below w.heap.size w w1 ∧ AtS w1 w.heap.size s ∧ Holds lenE w1 w1.heap.size (some ⟨gw + 1, 0, none⟩) (highs s) ∧ ((highs s).take (k + 1)).all highB = true) :=
                    Lib.hid ⟨hn.out.1, hn.out.2.1, hn.out.2.2, by rw [htk.out, hh]; simpa using h2k⟩
                  clear h2k hh hn
                  go_wp2_with fail
                  go_roundw
                  case rel => (repeat apply Exists.intro); exact ⟨⟨k + 1, by omega, by go_num, hnew⟩, rfl⟩
                  case measure => simp [intOf]; omega
            · have hk3 : k = 3 := by omega
              subst hk3
              have h3 : Hid ((highs s).all highB = true) := Lib.hid hinv.out.2.2.2
              have hfin : Hid (boxB s = (sidesB s && placesB s && factorsB s && lastB s)) := Lib.hid (box_all s h1.out h2.out h3.out)
              obtain ⟨hb2, hA2⟩ : Hid (Below w.heap.size w wr) ∧ Hid (AtS wr w.heap.size s) := ⟨Lib.hid hinv.out.1, Lib.hid hinv.out.2.1⟩
              clear hinv h1 h2 h3
              have c2 := hA2.out.2 2 _ rfl
              have c3 := hA2.out.2 3 _ rfl
              have c32 := hA2.out.2 32 _ rfl
              have c33 := hA2.out.2 33 _ rfl
              have c35 := hA2.out.2 35 _ rfl
              have c36 := hA2.out.2 36 _ rfl
              have c37 := hA2.out.2 37 _ rfl
              have c38 := hA2.out.2 38 _ rfl
              have c39 := hA2.out.2 39 _ rfl
              have c42 := hA2.out.2 42 _ rfl
              go_upto_region 18 with fail
              go_cut [8] (fun v wx => v = .bool (sidesB s) ∧ wr = wx)
              case first =>
                by_cases a0 : s.float ≤ 2
                rotate_left
                · have e : Hid (sidesB s = false) := Lib.hid (by unfold sidesB; simp [a0])
                  go_wp2_with fail
                  go_meet
                  exact ⟨by rw [e.out], rfl⟩
                have e : Hid (sidesB s = decide (s.clear ≤ 3)) := Lib.hid (by unfold sidesB; simp [a0])
                go_wp2_with fail
                go_meet
                exact ⟨by rw [e.out], rfl⟩
              case rest =>
                obtain ⟨rfl, hwx⟩ := hcut
                subst hwx
                go_upto_region 19 with fail
                go_cut [9] (fun v wx => v = .bool (placesB s) ∧ wr = wx)
                case first =>
                  by_cases a0 : s.align ≤ 2
                  rotate_left
                  · have e : Hid (placesB s = false) := Lib.hid (by unfold placesB; simp [a0])
                    go_wp2_with fail
                    go_meet
                    exact ⟨by rw [e.out], rfl⟩
                  by_cases a1 : s.justify ≤ 3
                  rotate_left
                  · have e : Hid (placesB s = false) := Lib.hid (by unfold placesB; simp [a0, a1])
                    go_wp2_with fail
                    go_meet
                    exact ⟨by rw [e.out], rfl⟩
                  have e : Hid (placesB s = decide (s.items ≤ 3)) := Lib.hid (by unfold placesB; simp [a0, a1])
                  go_wp2_with fail
                  go_meet
                  exact ⟨by rw [e.out], rfl⟩
                case rest =>
                  obtain ⟨rfl, hwx⟩ := hcut
                  subst hwx
                  go_upto_region 20 with fail
                  go_cut [10] (fun v wx => v = .bool (factorsB s) ∧ wr = wx)
                  case first =>
                    by_cases a0 : 0 ≤ s.grow
                    rotate_left
                    · have e : Hid (factorsB s = false) := Lib.hid (by unfold factorsB; simp [a0])
                      go_wp2_with fail
                      go_meet
                      exact ⟨by rw [e.out], rfl⟩
                    by_cases a1 : s.grow ≤ 60
                    rotate_left
                    · have e : Hid (factorsB s = false) := Lib.hid (by unfold factorsB; simp [a0, a1])
                      go_wp2_with fail
                      go_meet
                      exact ⟨by rw [e.out], rfl⟩
                    by_cases a2 : 0 ≤ s.shrink
                    rotate_left
                    · have e : Hid (factorsB s = false) := Lib.hid (by unfold factorsB; simp [a0, a1, a2])
                      go_wp2_with fail
                      go_meet
                      exact ⟨by rw [e.out], rfl⟩
                    have e : Hid (factorsB s = decide (s.shrink ≤ 60)) := Lib.hid (by unfold factorsB; simp [a0, a1, a2])
                    go_wp2_with fail
                    go_meet
                    exact ⟨by rw [e.out], rfl⟩
                  case rest =>
                    obtain ⟨rfl, hwx⟩ := hcut
                    subst hwx
                    generalize sidesB s = q1 at *
                    generalize placesB s = q2 at *
                    generalize factorsB s = q3 at *
                    cases q1
                    · go_wp2_with fail
                      go_ret
                      exact ⟨by rw [hfin.out]; rfl, hb2.out⟩
                    cases q2
                    · go_wp2_with fail
                      go_ret
                      exact ⟨by rw [hfin.out]; rfl, hb2.out⟩
                    cases q3
                    · go_wp2_with fail
                      go_ret
                      exact ⟨by rw [hfin.out]; rfl, hb2.out⟩
                    by_cases a0 : 0 ≤ s.line
                    rotate_left
                    · have e : Hid (lastB s = false) := Lib.hid (by unfold lastB; simp [a0])
                      go_wp2_with fail
                      go_ret
                      exact ⟨by rw [hfin.out, e.out]; rfl, hb2.out⟩
                    by_cases a1 : s.line ≤ 1099511627776
                    rotate_left
                    · have e : Hid (lastB s = false) := Lib.hid (by unfold lastB; simp [a0, a1])
                      go_wp2_with fail
                      go_ret
                      exact ⟨by rw [hfin.out, e.out]; rfl, hb2.out⟩
                    by_cases a2 : -1048576 ≤ s.order
                    rotate_left
                    · have e : Hid (lastB s = false) := Lib.hid (by unfold lastB; simp [a0, a1, a2])
                      go_wp2_with fail
                      go_ret
                      exact ⟨by rw [hfin.out, e.out]; rfl, hb2.out⟩
                    by_cases a3 : s.order ≤ 1048576
                    rotate_left
                    · have e : Hid (lastB s = false) := Lib.hid (by unfold lastB; simp [a0, a1, a2, a3])
                      go_wp2_with fail
                      go_ret
                      exact ⟨by rw [hfin.out, e.out]; rfl, hb2.out⟩
                    have e : Hid (lastB s = ((s.un : Int) == 0)) := Lib.hid (by unfold lastB; simp [a0, a1, a2, a3]; rw [Bool.eq_iff_iff]; simp)
                    go_wp2_with fail
                    go_ret
                    exact ⟨by rw [hfin.out, e.out]; rfl, hb2.out⟩
end Go.Proofs.Ytcgblbbadbkdgaa
