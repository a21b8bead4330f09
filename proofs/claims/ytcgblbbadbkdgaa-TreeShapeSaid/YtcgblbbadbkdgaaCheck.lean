/-
  Contract of package tree: Check.
-/
import Derived.Test.YtcgblbbadbkdgaaPre
import Derived.Test.YtcgblbbadbkdgaaLaw
import Derived.WalkMore
namespace Go.Proofs.Ytcgblbbadbkdgaa
open Go.RowKit
set_option linter.unusedVariables false

theorem infoI : (Try.prog.info? 3).map (fun i => (i.zero, i.size, i.bytes)) = some (some (.int .i64 0), 1, 8) := by kernel_rfl
/-- The list of the nodes that may be the next one's parent, as numbers. -/
def stI (rest : List Nat) : List Int := rest.reverse.map fun (k : Nat) => (k : Int)
theorem stI_len (rest : List Nat) : (stI rest).length = rest.length := by simp [stI]
theorem stI_cons (c : Nat) (r : List Nat) : stI (c :: r) = stI r ++ [(c : Int)] := by simp [stI]

/-- The last number of a row of the call's own; the row without it. -/
theorem own_pop {w : World} {base : Nat} {e : TypeId} {v : Value} {n : Nat} {l : List Int} {x : Int} (h : w.ownsRow base e 1 v (n + 1) ((l ++ [x]).flatMap intE)) (hl : l.length = n) :
    ∃ g cap, v = .slice (some ⟨g, 0, none⟩) (n + 1) cap ∧ n + 1 ≤ cap ∧ w.cell? ⟨g, n, none⟩ = some (.int .i64 x) ∧ w.ownsRow base e 1 (.slice (some ⟨g, 0, none⟩) n cap) n (l.flatMap intE) := by
  obtain ⟨h1, h2⟩ := h
  rcases h2 with ⟨_, h0⟩ | ⟨g, cap, cur, rfl, hg, hh, hn, hcap, hsz, htake⟩
  · cases h0
  · refine ⟨g, cap, rfl, hn, ?_, ⟨by rw [flat_len intE_len]; omega, .inr ⟨g, cap, cur, rfl, hg, hh, by omega, hcap, hsz, ?_⟩⟩⟩
    · have hw : w.ownsRow base e 1 (.slice (some ⟨g, 0, none⟩) (n + 1) cap) (n + 1) ((l ++ [x]).flatMap intE) := ⟨h1, .inr ⟨g, cap, cur, rfl, hg, hh, hn, hcap, hsz, htake⟩⟩
      rw [hw.cellAt n (by omega), intE_flat]
      simp [hl]
    · have h3 : (cur.toList.take ((n + 1) * 1)).take (n * 1) = ((l ++ [x]).flatMap intE).take (n * 1) := by rw [htake]
      rw [List.take_take, Nat.min_eq_left (by omega)] at h3
      rw [h3, List.flatMap_append]
      have : (l.flatMap intE).length = n * 1 := by rw [flat_len intE_len]; omega
      rw [← this]
      simp

/-- What Check's loops keep: the list, the tree. -/
structure PathInv (w0 : World) (g : Nat) (t : TreeV) (v : Value) (rest : List Nat) (wr : World) : Prop where
  own : wr.ownsRow w0.heap.size 3 1 v rest.length ((stI rest).flatMap intE)
  box : TBox w0 g t wr
  ne : v.ownBlock ≠ some g
theorem PathInv.below {w0 wr w' : World} {g : Nat} {t : TreeV} {v : Value} {rest : List Nat} (h : PathInv w0 g t v rest wr) (hb : Below wr.heap.size wr w') : PathInv w0 g t v rest w' :=
  ⟨own_below h.own hb, h.box.below hb, h.ne⟩
theorem PathInv.pop {w0 wr : World} {g : Nat} {t : TreeV} {v : Value} {c : Nat} {r : List Nat} (h : PathInv w0 g t v (c :: r) wr) :
    ∃ q cap, v = .slice (some ⟨q, 0, none⟩) (r.length + 1) cap ∧ r.length + 1 ≤ cap ∧ wr.cell? ⟨q, r.length, none⟩ = some (.int .i64 c) ∧ PathInv w0 g t (.slice (some ⟨q, 0, none⟩) r.length cap) r wr := by
  have h1 := h.own
  rw [stI_cons, List.length_cons] at h1
  obtain ⟨q, cap, rfl, hn, hc, ho⟩ := own_pop h1 (stI_len r)
  exact ⟨q, cap, rfl, hn, hc, ho, h.box, h.ne⟩
theorem PathInv.len {w0 wr : World} {g d : Nat} {t : TreeV} {v : Value} {rest : List Nat} (h : PathInv w0 g t v rest wr) (hd : rest.length = d) (h0 : 0 < d) : ∃ q cap, v = .slice (some ⟨q, 0, none⟩) d cap := by
  cases rest with
  | nil => simp at hd; omega
  | cons c r =>
    obtain ⟨q, cap, e, _⟩ := h.pop
    exact ⟨q, cap, by rw [e]; simp at hd; rw [hd]⟩
/-- .. the length a letter, the index as the program reckons it. -/
theorem PathInv.popI {w0 wr : World} {g n : Nat} {t : TreeV} {v : Value} {c : Nat} {r : List Nat} (h : PathInv w0 g t v (c :: r) wr) (hn : r.length + 1 = n) :
    ∃ q cap, v = .slice (some ⟨q, 0, none⟩) n cap ∧ n ≤ cap ∧ wr.cell? ⟨q, n - 1, none⟩ = some (.int .i64 c) ∧ PathInv w0 g t (.slice (some ⟨q, 0, none⟩) (n - 1) cap) r wr := by
  obtain ⟨q, cap, e, h1, h2, h3⟩ := h.pop
  have : n - 1 = r.length := by omega
  rw [this]
  exact ⟨q, cap, by rw [e, hn], by omega, h2, h3⟩
theorem path_step {w0 wr w' : World} {g i : Nat} {t : TreeV} {v v' : Value} {rest : List Nat} (h : PathInv w0 g t v rest wr) (o : Obj)
    (h3 : w'.ownsRow w0.heap.size 3 1 v' (rest.length + 1) ((stI rest ++ [(i : Int)]).flatMap intE)) (h4 : (wr.alloc o).grownBy w' v.ownBlock) (h5 : v'.ownBlock = v.ownBlock ∨ v'.ownBlock = some (wr.alloc o).heap.size) :
    PathInv w0 g t v' (i :: rest) w' := by
  have ha := (Below.refl wr.heap.size wr).alloc (Nat.le_refl _) o
  have hbx := h.box.below ha
  have hlt := h.box.box.lt
  refine ⟨by rw [stI_cons]; exact h3, ⟨hbx.at0, hbx.box.grown h4 (Ne.symm h.ne), hbx.hb.grown h4 (by have := hbx.hb.size; omega) (fun j hj => (h.own.lt j hj).1), hbx.ge⟩, ?_⟩
  rcases h5 with e | e
  · rw [e]; exact h.ne
  · rw [e]
    intro e2
    simp at e2
    omega

theorem PathInv.ready {w0 wr : World} {g n : Nat} {t : TreeV} {v : Value} {rest : List Nat} (h : PathInv w0 g t v rest wr) (hn : rest.length = n) (i : Nat) (L : Obj) (hL : L = .cells ([(i : Int)].flatMap intE).toArray 3) :
    (wr.alloc L).ownsRow w0.heap.size 3 1 v n ((stI rest).flatMap intE) ∧ w0.heap.size ≤ (wr.alloc L).heap.size ∧ Holds intE (wr.alloc L) (wr.alloc L).heap.size (some ⟨wr.heap.size, 0, none⟩) [(i : Int)] ∧
    ∀ v' w', w'.ownsRow w0.heap.size 3 1 v' (n + 1) ((stI rest ++ [(i : Int)]).flatMap intE) → (wr.alloc L).grownBy w' v.ownBlock → (v'.ownBlock = v.ownBlock ∨ v'.ownBlock = some (wr.alloc L).heap.size) → PathInv w0 g t v' (i :: rest) w' := by
  subst hn
  refine ⟨h.own.alloc L, ?_, ?_, fun v' w' h3 h4 h5 => path_step h L h3 h4 h5⟩
  · have := h.box.hb.size
    simp
    omega
  · rw [hL]; exact Holds.lit (f := intE) wr [(i : Int)] 3
theorem path_start {w0 w2 : World} {g : Nat} {t : TreeV} (h : TBox w0 g t w2) : PathInv w0 g t (.slice (some ⟨w2.heap.size, 0, none⟩) 1 1) (chain t.ns 0) (w2.alloc (.cells #[.int .i64 0] 3)) := by
  rw [chain_none (parI_zero _)]
  refine ⟨?_, h.below ((Below.refl _ _).alloc (Nat.le_refl _) _), ?_⟩
  · exact World.ownsRow_lit (base := w0.heap.size) (e := 3) (size := 1) w2 #[.int .i64 0] 1 h.hb.size (by decide) (by rfl)
  · have := h.box.lt
    intro e
    simp [Value.ownBlock] at e
    omega

/-- All nodes of a row ahead of i are right. -/
def AllOk (ns : List NodeV) (i : Nat) : Prop := ∀ j, j < i → nodeI ns j = 0

set_option maxRecDepth 100000 in
set_option maxHeartbeats 3200000 in
theorem check_h (t : TreeV) (w : World) (h : Hid (TreeAt w t)) (hm : t.an ≤ 100000) (hn : t.nn ≤ 100000) :
    Calls Try.prog 18 #[.agg #[.slice t.na t.nn t.nc, .slice t.aa t.an t.ac, .int .i64 t.view]] w fun e w' => e = .returned (.tuple #[.int .i64 (checkI t.ns t.av t.view).1, .int .i64 (checkI t.ns t.av t.view).2]) ∧ Below w.heap.size w w' := by
  have hln := Lib.hid h.out.nodes.len
  have hlm := Lib.hid h.out.advs.len
  have hwh : Hid (wholeI t.ns.length t.av.length t.av t.view = wholeI t.nn t.an t.av t.view) := Lib.hid (by rw [← hln.out, ← hlm.out])
  have kw := fun w h => whole_h t w h hm hn
  go_enter Try.func18, Try.ntmps18
  go_wp2_with fail
  go_step3
  generalize hW : World.alloc w _ = V
  have hT := TBox.start h.out hW
  have hge : Hid (w.heap.size ≤ w.heap.size) := Lib.hid (Nat.le_refl _)
  obtain ⟨g, hg⟩ : ∃ g, g = w.heap.size := ⟨_, rfl⟩
  rw [← hg] at hT ⊢
  clear hW hg hge
  obtain ⟨k0, k1, k2⟩ := hT.cells
  have ka := kw V (Lib.hid hT.at_)
  replace hT := Lib.hid hT
  generalize hE : wholeI t.nn t.an t.av t.view = e0 at *
  by_cases h0 : e0 = 0
  case neg =>
    have h0' : (e0 != 0) = true := by simpa using h0
    clear h
    go_wp2_with (go_at_call 39; refine ka.mono ?_; rintro e w1 ⟨rfl, hb1⟩; replace hb1 := Lib.hid (hT.out.below hb1))
    try rw [Exit.noGoto_ret]
    go_ret2
    rw [check_whole (by rw [hwh.out]; exact h0), hwh.out]
    exact ⟨rfl, hb1.out.hb⟩
  subst h0
  go_upto_region 4 with (go_at_call 39; refine ka.mono ?_; rintro e w1 ⟨rfl, hb1⟩)
  have hT1 := hT.out.below hb1
  obtain ⟨k0, k1, k2⟩ := hT1.cells
  have hn0 : 0 < t.nn := by
    rcases Nat.eq_zero_or_pos t.nn with e | e
    · have hE' := hE
      unfold wholeI at hE'
      rw [if_neg (by omega), if_pos (.inl e)] at hE'
      cases hE'
    · exact e
  have hn6 : t.nn ≤ 65536 := by
    by_cases hh : t.nn ≤ 65536
    · exact hh
    · have hE' := hE
      unfold wholeI at hE'
      rw [if_pos (by omega)] at hE'
      cases hE'
  obtain ⟨x0, hx0⟩ : ∃ x, t.ns[0]? = some x := ⟨_, List.getElem?_eq_getElem (by rw [← hln.out]; exact hn0)⟩
  obtain ⟨a, ha, hab, c0, ax⟩ := hT1.at_.nodes.at_.node (Nat.le_refl _) hx0
  rw [ha] at k0
  have kf := first_h x0 _ w1 (Lib.hid c0) (Lib.hid ax)
  have hf0 := Lib.hid (node0 hx0)
  rw [← hf0.out] at kf
  replace hT1 := Lib.hid hT1
  replace hE := Lib.hid hE
  have hn0' : (0 : Int) < (t.nn : Int) := by omega
  clear ka kw hb1 hT k1 k2 c0 ax hf0
  replace hx0 := Lib.hid hx0
  by_cases h0 : nodeI t.ns 0 = 0
  case neg =>
    have h0' : (nodeI t.ns 0 != 0) = true := by simpa using h0
    go_wp2_with (go_at_call 40; refine kf.mono ?_; rintro e w2 ⟨rfl, hb2⟩; replace hb2 := Lib.hid (hT1.out.below hb2))
    try rw [Exit.noGoto_ret]
    go_ret2
    rw [check_at hwh.out (by rw [← hln.out]; exact hn0) (fun j hj => by omega) h0]
    exact ⟨rfl, hb2.out.hb⟩
  rw [h0] at kf
  replace h0 := Lib.hid h0
  go_wp2_with (go_at_call 40; refine kf.mono ?_; rintro e w2 ⟨rfl, hb2⟩; have hT2 := Lib.hid (hT1.out.below hb2); clear hb2)
  go_step3
  go_wp2_with fail
  have hst := Lib.hid (path_start hT2.out)
  have hok1 : Hid (AllOk t.ns 1) := Lib.hid (fun j hj => by obtain rfl : j = 0 := (by omega); exact h0.out)
  clear hT1 hT2 kf k0 hx0 h0
  go_loopw [6, 7] (fun v i wr => ∃ k : Nat, 1 ≤ k ∧ k ≤ t.nn ∧ i = .int .i64 k ∧ Hid (PathInv w g t v (chain t.ns (k - 1)) wr) ∧ Hid (AllOk t.ns k)) (fun _ i _ => t.nn - (intOf i).toNat)
  case atStart => exact ⟨1, Nat.le_refl _, by omega, rfl, hst, hok1⟩
  case round =>
    clear hst hok1
    obtain ⟨i, hi1, hin, rfl, hP, hok⟩ := hrel
    obtain ⟨k0, k1, k2⟩ := hP.out.box.cells
    by_cases hlt : i < t.nn
    case neg =>
      have hlt' : ¬ (i : Int) < (t.nn : Int) := by omega
      go_wp2_with fail
      go_ret2
      have e : i = t.nn := by omega
      rw [check_ok hwh.out (by rw [← hln.out, ← e]; exact hok.out)]
      exact ⟨rfl, hP.out.box.hb⟩
    obtain ⟨x, hx⟩ : ∃ x, t.ns[i]? = some x := ⟨_, List.getElem?_eq_getElem (by rw [← hln.out]; exact hlt)⟩
    replace hx := Lib.hid hx
    obtain ⟨d, hd⟩ : ∃ d, (chain t.ns (i - 1)).length = d := ⟨_, rfl⟩
    have hd0 : 0 < d := by obtain ⟨r, hr⟩ := chain_head t.ns (i - 1); rw [hr] at hd; simp at hd; omega
    have hd1 : d ≤ t.nn := by have := dep_le t.ns (i - 1); unfold dep at this; omega
    have hlt' : (i : Int) < (t.nn : Int) := by omega
    obtain ⟨q0, cap0, rfl⟩ := hP.out.len hd hd0
    replace hd := Lib.hid hd
    go_wp2_with fail
    clear k0 k1 k2
    go_loopw [6, 32] (fun v k wr => ∃ (j : Nat) (pre rest : List Nat), j + rest.length = d ∧ k = .int .i64 j ∧ Hid (chain t.ns (i - 1) = pre ++ rest) ∧ Hid (∀ c ∈ pre, x.p ≠ ((c : Nat) : Int)) ∧ Hid (PathInv w g t v rest wr)) (fun _ k _ => d - (intOf k).toNat)
    case atStart => exact ⟨0, [], chain t.ns (i - 1), by rw [hd.out]; omega, rfl, Lib.hid rfl, Lib.hid (fun c hc => by cases hc), hP⟩
    case round =>
      clear hP
      obtain ⟨j, pre, rest, hjd, rfl, hch, hpre, hP⟩ := hrel
      obtain ⟨k0, k1, k2⟩ := hP.out.box.cells
      by_cases hj : j < d
      case neg =>
        have hj' : ¬ (j : Int) < (d : Int) := by omega
        have hr0 : rest = [] := List.eq_nil_of_length_eq_zero (by omega)
        go_wp2_with fail
        try rw [Exit.noGoto_ret]
        go_ret2
        have h6 := node_out hx.out (by omega) (fun c hc => hpre.out c (by rw [hch.out, hr0, List.append_nil] at hc; exact hc))
        rw [check_at hwh.out (by rw [← hln.out]; exact hlt) hok.out (by rw [h6]; decide), h6]
        exact ⟨rfl, hP.out.box.hb⟩
      have hj' : (j : Int) < (d : Int) := by omega
      obtain ⟨c, r, rfl⟩ : ∃ c r, rest = c :: r := by
        cases rest with
        | nil => simp at hjd; omega
        | cons c r => exact ⟨c, r, rfl⟩
      obtain ⟨n, hrn⟩ : ∃ n, r.length + 1 = n := ⟨_, rfl⟩
      obtain ⟨q, cap, rfl, hncap, cq, hP2⟩ := hP.out.popI hrn
      obtain ⟨a2, ha2, hab2, cx, ax⟩ := hP.out.box.at_.nodes.at_.node (Nat.le_refl _) hx.out
      rw [ha2] at k0
      have hnd : j + n = d := by simp at hjd; omega
      have hn1 : (0 : Int) ≤ (n : Int) - 1 := by omega
      have hn2 : (n : Int) - 1 < (n : Int) := by omega
      have hn3 : (n : Int) - 1 ≤ (cap : Int) := by omega
      have hn4 : n ≤ 70000 := by omega
      replace hjd := Lib.hid hjd
      replace hrn := Lib.hid hrn
      replace ha2 := Lib.hid ha2
      replace hP2 := Lib.hid hP2
      replace ax := Lib.hid ax
      by_cases hxp : x.p = (c : Int)
      case neg =>
        have hxp' : (x.p == (c : Int)) = false := by simpa using hxp
        replace hxp := Lib.hid hxp
        go_wp2_with fail
        go_roundw
        case rel => exact ⟨j + 1, pre ++ [c], r, by have := hrn.out; omega, by go_num, Lib.hid (by rw [hch.out]; simp), Lib.hid (fun c2 h2 => by rcases List.mem_append.mp h2 with h3 | h3; exact hpre.out c2 h3; rw [List.mem_singleton.mp h3]; exact hxp.out), hP2⟩
        case measure => simp [intOf]; omega
      obtain ⟨y, hy⟩ : ∃ y, t.ns[c]? = some y := ⟨_, List.getElem?_eq_getElem (by have := chain_le t.ns (i - 1) c (by rw [hch.out]; simp); rw [← hln.out]; omega)⟩
      have hci : c < i := by have := chain_le t.ns (i - 1) c (by rw [hch.out]; simp); omega
      obtain ⟨z, hz⟩ : ∃ z, t.ns[c + 1]? = some z := ⟨_, List.getElem?_eq_getElem (by rw [← hln.out]; omega)⟩
      obtain ⟨hnode, hcn, -⟩ := node_in hx.out (by omega) hok.out hch.out hxp hy hz
      have kc := child_h t i c ((n : Int) + 1) x y z wr (Lib.hid hP.out.box.at_) hx (Lib.hid hy) (Lib.hid hz) (Lib.hid hxp) hci hlt hn
      have hnn : Hid ((((c :: r).length + 1 : Nat) : Int) = (n : Int) + 1) := Lib.hid (by have := hrn.out; simp; omega)
      rw [hnn.out] at hnode
      rw [← hnode] at kc
      rw [ha2.out] at kc
      rw [hxp] at cx
      replace hcn := Lib.hid hcn
      clear hnode hy hz hnn hP2 hpre ax
      by_cases hv : nodeI t.ns i = 0
      case neg =>
        have hv' : (nodeI t.ns i != 0) = true := by simpa using hv
        replace hv := Lib.hid hv
        go_wp2_with (go_at_call 41; refine kc.mono ?_; rintro e w3 ⟨rfl, hb3⟩; replace hb3 := Lib.hid (hP.out.below hb3))
        try rw [Exit.noGoto_ret]
        go_ret2
        rw [check_at hwh.out (by rw [← hln.out]; exact hlt) hok.out hv.out]
        exact ⟨rfl, hb3.out.box.hb⟩
      rw [hv] at kc
      replace hv := Lib.hid hv
      have hrl : Hid ((c :: r).length = n) := Lib.hid (by have := hrn.out; simp; omega)
      have hok2 : Hid (AllOk t.ns (i + 1)) := Lib.hid (fun j hj => by
        by_cases e : j = i
        · rw [e]; exact hv.out
        · exact hok.out j (by omega))
      have hst : Hid (stI (c :: r) = stI (c :: r)) := Lib.hid rfl
      have hready := fun w3 (hb : Below wr.heap.size wr w3) => Lib.hid ((hP.out.below hb).ready hrl.out i _ rfl)
      clear hst hrl hP hch hok hrn hjd
      generalize stI (c :: r) = st at *
      go_wp2_with (first | (go_at_call 41; refine kc.mono ?_; rintro e w3 ⟨rfl, hb3⟩; have hr3 := hready w3 hb3; clear hready hb3) | (at_builtin; refine append_row (f := intE) rfl (.tmp 58) (.tmp 60) 45 3 rfl _ 8 Try.underlying45 infoI rfl (by decide) (by decide) intE_len intE_one w.heap.size _ n st rfl hr3.out.1 _ _ 1 1 [(i : Int)] rfl (fun h => by cases h) (Lib.hid rfl) hr3.out.2.2.1 (by omega) hr3.out.2.1 ?_; intro v' w' h3 h4 h5; have hnx := Lib.hid (hr3.out.2.2.2 v' w' h3 h4 h5); clear h3 h4 h5 hr3))
      go_roundw
      case rel => exact ⟨i + 1, by omega, by omega, by go_num, Lib.hid (by rw [Nat.add_sub_cancel, hcn.out]; exact hnx.out), hok2⟩
      case measure => simp [intOf]; omega
end Go.Proofs.Ytcgblbbadbkdgaa
