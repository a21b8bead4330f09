/-
  Contract of the document's answer, of a style that has nothing but a kind and units.
-/
import Derived.Test.YtcgblbbadbkdgaaRbox
namespace Go.Proofs.Ytcgblbbadbkdgaa
open Go.RowKit

def emptyB (s : Style) : Bool := [14, 15, 16].all (rule s)
def seven (s : Style) : List LenV := [s.w, s.h, s.minW, s.maxW, s.minH, s.maxH, s.basis]
def zeroEdge (s : Style) (k : Nat) : Bool := s.borders.getD k 0 == 0 && s.paddings.getD k 0 == 0
def restB (s : Style) : Bool := !s.flow && !s.wrap && s.float == 0 && s.clear == 0 && s.align == 0 && s.justify == 0 && s.items == 0 && s.line == 0 && s.order == 0 && s.grow == 0 && s.shrink == 0
theorem empty_edge (s : Style) (k : Nat) (hk : k < 4) (h : zeroEdge s k = false) : emptyB s = false := by
  rw [← Bool.not_eq_true]
  intro hb
  simp [emptyB, rule, Style.margins, Style.borders, Style.paddings] at hb
  match k, hk, h with
  | 0, _, h | 1, _, h | 2, _, h | 3, _, h => simp [zeroEdge, Style.borders, Style.paddings, hb] at h
theorem empty_len (s : Style) (h : (seven s ++ s.margins).all zeroLen = false) : emptyB s = false := by
  rw [← Bool.not_eq_true]
  intro hb
  simp [emptyB, rule, Style.margins, Style.borders, Style.paddings] at hb
  simp [seven, Style.margins, hb] at h
theorem empty_all (s : Style) (h1 : ∀ k, k < 4 → zeroEdge s k = true) (h2 : (seven s ++ s.margins).all zeroLen = true) : emptyB s = restB s := by
  have e0 := h1 0 (by omega)
  have e1 := h1 1 (by omega)
  have e2 := h1 2 (by omega)
  have e3 := h1 3 (by omega)
  simp [zeroEdge, Style.borders, Style.paddings] at e0 e1 e2 e3
  simp [seven, Style.margins] at h2
  simp [emptyB, restB, rule, Style.margins, Style.borders, Style.paddings, e0, e1, e2, e3, h2, Bool.and_assoc]

/-- What the first loop keeps. -/
structure EInv (w0 : World) (s : Style) (k : Nat) (v : Value) (wr : World) : Prop where
  hb : Below w0.heap.size w0 wr
  lt : w0.heap.size + 1 ≤ wr.heap.size
  at_ : AtS wr w0.heap.size s
  own : wr.ownsRow (w0.heap.size + 1) 23 2 v (7 + k) ((seven s ++ s.margins.take k).flatMap lenE)
  seen : ∀ j, j < k → zeroEdge s j = true

theorem infoLen : (Try.prog.info? 23).map (fun i => (i.zero, i.size, i.bytes)) = some (some (.agg #[.int .u8 0, .int .i64 0]), 2, 16) := by kernel_rfl
theorem AtS.keep {w w' : World} {g B : Nat} {s : Style} (h : AtS w g s) (hb : Below B w w') (hB : g < B) : AtS w' g s :=
  ⟨Nat.lt_of_lt_of_le h.1 hb.size, fun i u hu => (hb.cell (p := ⟨g, i, none⟩) hB).trans (h.2 i u hu)⟩
theorem margins_take (s : Style) {k : Nat} (hk : k < 4) : s.margins.take k ++ [s.margins.getD k ⟨0, 0⟩] = s.margins.take (k + 1) := by
  match k, hk with
  | 0, _ | 1, _ | 2, _ | 3, _ => rfl
theorem einv_next {w0 : World} {s : Style} {k : Nat} {v v' : Value} {wr w' : World} {o : Obj} (h : EInv w0 s k v wr) (hk : k < 4) (h3 : w'.ownsRow (w0.heap.size + 1) 23 2 v' (7 + k + 1) ((seven s ++ s.margins.take k ++ [s.margins.getD k ⟨0, 0⟩]).flatMap lenE))
    (h4 : (wr.alloc o).grownBy w' v.ownBlock) : Below w0.heap.size w0 w' ∧ w0.heap.size + 1 ≤ w'.heap.size ∧ AtS w' w0.heap.size s ∧ w'.ownsRow (w0.heap.size + 1) 23 2 v' (7 + (k + 1)) ((seven s ++ s.margins.take (k + 1)).flatMap lenE) := by
  have hg : Below (w0.heap.size + 1) wr w' := ((Below.refl _ _).alloc h.lt o).grown h4 (by have := h.lt; simp; omega) (fun j hj => (h.own.lt j hj).1)
  refine ⟨h.hb.trans (hg.mono (by omega)), Nat.le_trans h.lt hg.size, h.at_.keep hg (by omega), ?_⟩
  rw [← margins_take s hk, ← List.append_assoc]
  exact h3

set_option maxRecDepth 100000 in
set_option maxHeartbeats 3200000 in
theorem rempty_any (s : Style) (w : World) : Calls Try.prog 37 #[styV s] w fun e w' => e = .returned (.bool (emptyB s)) ∧ Below w.heap.size w w' := by
  unfold styV
  obtain ⟨L, hL⟩ : ∃ L, (styE s).toArray = L := ⟨_, rfl⟩
  rw [hL]
  have hA := show AtS (w.alloc (.cells L 28)) w.heap.size s by rw [← hL]; exact at_new w s _
  have hb0 := Lib.hid ((Below.refl w.heap.size w).alloc (Nat.le_refl _) (.cells L 28))
  clear hL
  have c4 := hA.2 4 _ rfl
  have c5 := hA.2 5 _ rfl
  have c6 := hA.2 6 _ rfl
  have c7 := hA.2 7 _ rfl
  have c8 := hA.2 8 _ rfl
  have c9 := hA.2 9 _ rfl
  have c10 := hA.2 10 _ rfl
  have c11 := hA.2 11 _ rfl
  have c12 := hA.2 12 _ rfl
  have c13 := hA.2 13 _ rfl
  have c14 := hA.2 14 _ rfl
  have c15 := hA.2 15 _ rfl
  have c40 := hA.2 40 _ rfl
  have c41 := hA.2 41 _ rfl
  replace hA := Lib.hid hA
  have hg0 : w.heap.size < (w.alloc (.cells L 28)).heap.size := by simp
  have hst : Hid (EInv w s 0 (.slice (some ⟨w.heap.size + 1, 0, none⟩) 7 7) ((w.alloc (.cells L 28)).alloc (.cells ((seven s).flatMap lenE).toArray 23))) := Lib.hid ⟨hb0.out.alloc hb0.out.size _, by simp, hA.out.below ((Below.refl _ _).alloc (Nat.le_refl _) _), by
    have h := World.ownsRow_lit (base := w.heap.size + 1) (e := 23) (size := 2) (w.alloc (.cells L 28)) ((seven s).flatMap lenE).toArray 7 (by simp) (by unfold maxLen; omega) (by rfl)
    simpa using h, fun j hj => absurd hj (Nat.not_lt_zero j)⟩
  clear hA hb0
  go_enter Try.func37, Try.ntmps37
  go_wp2_with fail
  go_loopw [3, 4] (fun v i wr => ∃ k : Nat, k ≤ 4 ∧ i = .int .i64 k ∧ Hid (EInv w s k v wr)) (fun _ i _ => 4 - (intOf i).toNat)
  case atStart => exact ⟨0, Nat.zero_le _, rfl, hst⟩
  case round =>
    obtain ⟨k, hk, rfl, hinv⟩ := hrel
    by_cases hlt : k < 4
    · obtain ⟨c0, c1, -, -⟩ := edge_cells hinv.out.at_ hlt
      have hi1 : (0 : Int) ≤ (k : Int) := by omega
      have hi2 : (k : Int) < 4 := by omega
      obtain ⟨B, hB⟩ : ∃ B, s.borders.getD k 0 = B := ⟨_, rfl⟩
      obtain ⟨P, hP⟩ : ∃ P, s.paddings.getD k 0 = P := ⟨_, rfl⟩
      have he : zeroEdge s k = (B == 0 && P == 0) := by unfold zeroEdge; rw [hB, hP]
      replace he := Lib.hid he
      have hlit := Lib.hid (Holds.lit (f := lenE) wr [s.margins.getD k ⟨0, 0⟩] 23)
      have hown2 := Lib.hid (hinv.out.own.alloc (.cells ([s.margins.getD k ⟨0, 0⟩].flatMap lenE).toArray 23))
      have hnx := Lib.hid (fun v' w' h3 h4 => einv_next (v' := v') (w' := w') (o := .cells ([s.margins.getD k ⟨0, 0⟩].flatMap lenE).toArray 23) hinv.out hlt h3 h4)
      have hcc := Lib.hid (fun w' (h : AtS w' w.heap.size s) => show w'.cell? ⟨w.heap.size, 24 + k, none⟩ = some (.int .i64 B) ∧ w'.cell? ⟨w.heap.size, 28 + k, none⟩ = some (.int .i64 P) by have := edge_cells h hlt; rw [hB, hP] at this; exact this.2.2)
      have hbase : Hid (w.heap.size + 1 ≤ (wr.alloc (.cells ([s.margins.getD k ⟨0, 0⟩].flatMap lenE).toArray 23)).heap.size) := Lib.hid (by have := hinv.out.lt; simp; omega)
      have hseen := Lib.hid hinv.out.seen
      clear hB hP hinv
      generalize s.margins.getD k ⟨0, 0⟩ = M at *
      by_cases q1 : B = 0
      · have q1' : (B != 0) = false := by simpa using q1
        by_cases q2 : P = 0
        · have q2' : (P != 0) = false := by simpa using q2
          replace he := Lib.hid (show zeroEdge s k = true by rw [he.out, q1, q2]; rfl)
          clear q1 q2
          go_wp2_with (at_builtin; refine append_row (f := lenE) rfl (.tmp 25) (.tmp 30) 81 23 rfl _ 16 Try.underlying81 infoLen rfl (by decide) (by decide) lenE_len lenE_one (w.heap.size + 1) u3 (7 + k) _ rfl hown2.out _ _ 1 1 [M] rfl (fun h => by cases h) (Lib.hid rfl) hlit.out (by omega) hbase.out ?_; intro v' w' h3 h4 h5; obtain ⟨e1, e2, e3, e4⟩ := hnx.out v' w' h3 h4; obtain ⟨d1, d2⟩ := hcc.out w' e3; clear h3 h4 h5)
          have hnew : Hid (EInv w s (k + 1) v' w') := Lib.hid ⟨e1, e2, e3, e4, fun j hj => by
            by_cases e : j = k
            · subst e; exact he.out
            · exact hseen.out j (by omega)⟩
          go_roundw
          case rel => exact ⟨k + 1, by omega, by go_num, hnew⟩
          case measure => simp [intOf]; omega
        · have q2' : (P != 0) = true := by simpa using q2
          have hres := Lib.hid (empty_edge s k hlt (by rw [he.out]; simp [q2]))
          clear q1 q2
          go_wp2_with (at_builtin; refine append_row (f := lenE) rfl (.tmp 25) (.tmp 30) 81 23 rfl _ 16 Try.underlying81 infoLen rfl (by decide) (by decide) lenE_len lenE_one (w.heap.size + 1) u3 (7 + k) _ rfl hown2.out _ _ 1 1 [M] rfl (fun h => by cases h) (Lib.hid rfl) hlit.out (by omega) hbase.out ?_; intro v' w' h3 h4 h5; obtain ⟨e1, e2, e3, e4⟩ := hnx.out v' w' h3 h4; obtain ⟨d1, d2⟩ := hcc.out w' e3; clear h3 h4 h5)
          go_ret
          exact ⟨by rw [hres.out]; rfl, e1⟩
      · have q1' : (B != 0) = true := by simpa using q1
        have hres := Lib.hid (empty_edge s k hlt (by rw [he.out]; simp [q1]))
        clear q1
        go_wp2_with (at_builtin; refine append_row (f := lenE) rfl (.tmp 25) (.tmp 30) 81 23 rfl _ 16 Try.underlying81 infoLen rfl (by decide) (by decide) lenE_len lenE_one (w.heap.size + 1) u3 (7 + k) _ rfl hown2.out _ _ 1 1 [M] rfl (fun h => by cases h) (Lib.hid rfl) hlit.out (by omega) hbase.out ?_; intro v' w' h3 h4 h5; obtain ⟨e1, e2, e3, e4⟩ := hnx.out v' w' h3 h4; obtain ⟨d1, d2⟩ := hcc.out w' e3; clear h3 h4 h5)
        go_ret
        exact ⟨by rw [hres.out]; rfl, e1⟩
    · have hk4 : k = 4 := by omega
      subst hk4
      have hlen : (seven s ++ s.margins.take 4).length = 11 := rfl
      obtain ⟨A, cc, rfl, hS, hN⟩ := Sl.own hinv.out.own lenE_len (by omega)
      have h1 := Lib.hid hinv.out.seen
      have hst2 : Hid (Below w.heap.size w wr ∧ AtS wr w.heap.size s ∧ Holds lenE wr wr.heap.size A (seven s ++ s.margins) ∧ ((seven s ++ s.margins).take 0).all zeroLen = true) := Lib.hid ⟨hinv.out.hb, hinv.out.at_, hS.at_, rfl⟩
      clear hinv hS hN hlen
      rw [show 7 + 4 = 11 from rfl]
      go_wp2_with fail
      go_loopw [5] (fun i wr => ∃ k : Nat, k ≤ 11 ∧ i = .int .i64 k ∧ Hid (Below w.heap.size w wr ∧ AtS wr w.heap.size s ∧ Holds lenE wr wr.heap.size A (seven s ++ s.margins) ∧ ((seven s ++ s.margins).take k).all zeroLen = true)) (fun i _ => 11 - (intOf i).toNat)
      case atStart => exact ⟨0, Nat.zero_le _, rfl, hst2⟩
      case round =>
        obtain ⟨k, hk, rfl, hinv⟩ := hrel
        by_cases hlt : k < 11
        · have hkl : k < (seven s ++ s.margins).length := hlt
          obtain ⟨x, hx⟩ : ∃ x, (seven s ++ s.margins)[k]? = some x := ⟨(seven s ++ s.margins)[k], List.getElem?_eq_getElem hkl⟩
          obtain ⟨a, rfl, hab, hc⟩ := hinv.out.2.2.1.get lenE_len hx
          have c0 := hc 0 _ rfl
          have c1 := hc 1 _ rfl
          simp only [Nat.add_zero] at c0
          rw [← add_off _ _ _ (by omega)] at c1
          have htk : Hid (((seven s ++ s.margins).take (k + 1)).all zeroLen = zeroLen x) := Lib.hid (by
            rw [List.take_add_one, List.all_append, hinv.out.2.2.2, hx]; simp)
          have hres : Hid (zeroLen x = false → emptyB s = false) := Lib.hid (fun hf => empty_len s (by
            rw [List.all_eq_false]
            exact ⟨x, List.mem_of_getElem? hx, by simp [hf]⟩))
          clear hc hx hkl
          have hi1 : (0 : Int) ≤ (k : Int) := by omega
          have hi2 : (k : Int) < 11 := by omega
          by_cases q1 : x.k = 0
          · have q1' : (x.k != 0) = false := by simpa using q1
            by_cases q2 : x.n = 0
            · have q2' : (x.n != 0) = false := by simpa using q2
              have hnew : Hid (Below w.heap.size w wr ∧ AtS wr w.heap.size s ∧ Holds lenE wr wr.heap.size (some a) (seven s ++ s.margins) ∧ ((seven s ++ s.margins).take (k + 1)).all zeroLen = true) :=
                Lib.hid ⟨hinv.out.1, hinv.out.2.1, hinv.out.2.2.1, by rw [htk.out]; simp [zeroLen, q1, q2]⟩
              clear q1 q2
              go_wp2_with fail
              go_roundw
              case rel => exact ⟨k + 1, by omega, by go_num, hnew⟩
              case measure => simp [intOf]; omega
            · have q2' : (x.n != 0) = true := by simpa using q2
              have hres := Lib.hid (hres.out (by simp [zeroLen, q2]))
              clear q1 q2
              go_wp2_with fail
              go_ret
              exact ⟨by rw [hres.out]; rfl, hinv.out.1⟩
          · have q1' : (x.k != 0) = true := by simpa using q1
            have hres := Lib.hid (hres.out (by simp [zeroLen, q1]))
            clear q1
            go_wp2_with fail
            go_ret
            exact ⟨by rw [hres.out]; rfl, hinv.out.1⟩
        · have hk11 : k = 11 := by omega
          subst hk11
          have h2 : Hid ((seven s ++ s.margins).all zeroLen = true) := Lib.hid hinv.out.2.2.2
          have hfin : Hid (emptyB s = restB s) := Lib.hid (empty_all s h1.out h2.out)
          obtain ⟨hb2, hA2⟩ : Hid (Below w.heap.size w wr) ∧ Hid (AtS wr w.heap.size s) := ⟨Lib.hid hinv.out.1, Lib.hid hinv.out.2.1⟩
          clear hinv h1 h2
          have f1 := hA2.out.2 1 _ rfl
          have f2 := hA2.out.2 2 _ rfl
          have f3 := hA2.out.2 3 _ rfl
          have f32 := hA2.out.2 32 _ rfl
          have f33 := hA2.out.2 33 _ rfl
          have f34 := hA2.out.2 34 _ rfl
          have f35 := hA2.out.2 35 _ rfl
          have f36 := hA2.out.2 36 _ rfl
          have f37 := hA2.out.2 37 _ rfl
          have f38 := hA2.out.2 38 _ rfl
          have f39 := hA2.out.2 39 _ rfl
          have hf := show emptyB s = (!s.flow && !s.wrap && s.float == 0 && s.clear == 0 && s.align == 0 && s.justify == 0 && s.items == 0 && s.line == 0 && s.order == 0 && s.grow == 0 && s.shrink == 0) from hfin.out
          clear hfin hA2
          obtain ⟨z1, g1⟩ : ∃ z, s.flow = z := ⟨_, rfl⟩
          rw [g1] at hf
          rw [g1] at f1
          obtain ⟨z2, g2⟩ : ∃ z, s.wrap = z := ⟨_, rfl⟩
          rw [g2] at hf
          rw [g2] at f34
          obtain ⟨z3, g3⟩ : ∃ z, (s.float == 0) = z := ⟨_, rfl⟩
          rw [g3] at hf
          obtain ⟨z4, g4⟩ : ∃ z, (s.clear == 0) = z := ⟨_, rfl⟩
          rw [g4] at hf
          obtain ⟨z5, g5⟩ : ∃ z, (s.align == 0) = z := ⟨_, rfl⟩
          rw [g5] at hf
          obtain ⟨z6, g6⟩ : ∃ z, (s.justify == 0) = z := ⟨_, rfl⟩
          rw [g6] at hf
          obtain ⟨z7, g7⟩ : ∃ z, (s.items == 0) = z := ⟨_, rfl⟩
          rw [g7] at hf
          obtain ⟨z8, g8⟩ : ∃ z, (s.line == 0) = z := ⟨_, rfl⟩
          rw [g8] at hf
          obtain ⟨z9, g9⟩ : ∃ z, (s.order == 0) = z := ⟨_, rfl⟩
          rw [g9] at hf
          obtain ⟨z10, g10⟩ : ∃ z, (s.grow == 0) = z := ⟨_, rfl⟩
          rw [g10] at hf
          obtain ⟨z11, g11⟩ : ∃ z, (s.shrink == 0) = z := ⟨_, rfl⟩
          rw [g11] at hf
          replace hf := Lib.hid hf
          cases z1
          rotate_left
          · go_wp2_with fail
            go_ret
            exact ⟨by rw [hf.out]; rfl, hb2.out⟩
          cases z2
          rotate_left
          · go_wp2_with fail
            go_ret
            exact ⟨by rw [hf.out]; rfl, hb2.out⟩
          cases z3
          · go_wp2_with fail
            go_ret
            exact ⟨by rw [hf.out]; rfl, hb2.out⟩
          cases z4
          · go_wp2_with fail
            go_ret
            exact ⟨by rw [hf.out]; rfl, hb2.out⟩
          cases z5
          · go_wp2_with fail
            go_ret
            exact ⟨by rw [hf.out]; rfl, hb2.out⟩
          cases z6
          · go_wp2_with fail
            go_ret
            exact ⟨by rw [hf.out]; rfl, hb2.out⟩
          cases z7
          · go_wp2_with fail
            go_ret
            exact ⟨by rw [hf.out]; rfl, hb2.out⟩
          cases z8
          · go_wp2_with fail
            go_ret
            exact ⟨by rw [hf.out]; rfl, hb2.out⟩
          cases z9
          · go_wp2_with fail
            go_ret
            exact ⟨by rw [hf.out]; rfl, hb2.out⟩
          cases z10
          · go_wp2_with fail
            go_ret
            exact ⟨by rw [hf.out]; rfl, hb2.out⟩
          cases z11
          · go_wp2_with fail
            go_ret
            exact ⟨by rw [hf.out]; rfl, hb2.out⟩
          go_wp2_with fail
          go_ret
          exact ⟨by rw [hf.out]; rfl, hb2.out⟩
end Go.Proofs.Ytcgblbbadbkdgaa
