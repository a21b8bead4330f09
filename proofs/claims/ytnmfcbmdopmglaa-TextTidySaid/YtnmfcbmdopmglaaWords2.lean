/-
  Contract of package text: Words.
-/
import Derived.Test.YtnmfcbmdopmglaaWords
import Derived.Test.YtnmfcbmdopmglaaRWords2
import Derived.Deep.DeepCutAuto
import Derived.Sort.CutIn
namespace Go.Proofs.Ytnmfcbmdopmglaa
open Go.RowKit Go.Shelf
set_option linter.unusedVariables false
attribute [local go_sem] Oper.semAt_some

set_option maxRecDepth 100000 in
theorem places_h (U : Option Addr) (n c : Nat) (w : World) :
    Calls Try.prog 39 #[.slice U n c] w fun e w' => e = .returned (.func (.func 52) #[] #[.pointer (some ⟨w.heap.size, 0, none⟩)]) ∧ w' = w.alloc (.cells #[.slice U n c] 36) := by
  go_enter Try.func39, Try.ntmps39
  go_wp2_with fail
  go_ret
  exact ⟨rfl, rfl⟩

/-- places hands back a function that tells the places. -/
theorem places_stops (m Bs n c : Nat) (hm : 1 ≤ m) (U : Option Addr) (u : List Int) (w0 w : World) (hU : Hid (Sl u16E w0 U n c u)) (hu : Hid (∀ x ∈ u, U16 x)) (hn : n ≤ 1000000) (hb : Below w0.heap.size w0 w) (hB : Bs < w.heap.size) (hc : w.cell? ⟨Bs, 0, none⟩ = some (.slice U n c)) :
    SeqStopsK Fence.wide m Try.prog 52 #[.pointer (some ⟨Bs, 0, none⟩)] (fun p : PlcN n => #[.agg #[.int .i64 p.1.s, .int .i64 p.1.t, .int .i64 p.1.e]]) (KpB w0.heap.size Bs) (fun ys => Whl u (plcs ys)) (fun _ => True) n w :=
  fun l J Jx W hW _ _ hY h0 => places1_in m l Bs n c hm U u w0 hU hu hn J Jx (Lib.hid hY) W (Lib.hid (hb.trans (hW.mono hb.size))) ((hW.cell (p := ⟨Bs, 0, none⟩) hB).trans hc) (Lib.hid h0)

theorem WI.close {w0 W wq X W6 : World} {n c m d : Nat} {U B : Option Addr} {A u : List Int} {pre : List (PlcN n)} {x : PlcN n} {v v' : Value} {o : Obj} {y : Wrd} {b' bb : Bool} {l0 : List Wrd} {lq B0 : Nat}
    (h : WI w0 n c m d U B A u (plcs pre) v W) (hbq : Below W.heap.size W wq) (hX : Below wq.heap.size wq X) (hl0 : wrds A u (plcs pre) = l0) (hlq : l0.length = lq) (hbb : fars A u (plcs pre) = bb)
    (hR : W6.ownsRow (w0.heap.size + 7) 58 5 v' (lq + 1) ((l0 ++ [y]).flatMap wrdE)) (hG : (X.alloc o).grownBy W6 v.ownBlock) (hy : y = wrdOf A u (plcs pre).isEmpty x.1) (hb' : b' = (bb || farOf A u (plcs pre).isEmpty x.1)) :
    KeepsFrom B0 W ((W6.setCell ⟨w0.heap.size + 2, 0, none⟩ v').setCell ⟨w0.heap.size + 3, 0, none⟩ (.bool b')) ∧ KpB w0.heap.size (w0.heap.size + 6) W ((W6.setCell ⟨w0.heap.size + 2, 0, none⟩ v').setCell ⟨w0.heap.size + 3, 0, none⟩ (.bool b')) ∧
      ∃ v, WI w0 n c m d U B A u (plcs (pre ++ [x])) v ((W6.setCell ⟨w0.heap.size + 2, 0, none⟩ v').setCell ⟨w0.heap.size + 3, 0, none⟩ (.bool b')) := by
  have h1 := h.below hbq
  have h2 := h1.below hX
  subst hl0 hlq hbb
  obtain ⟨h3, h4⟩ := h2.step hR hG hy hb'
  have hk := ((Keep.below hbq h.hb.size).trans (Keep.below hX h1.hb.size)).trans h4
  refine ⟨hk.o.from _, h.kp h3 hk, _, by rw [plcs_snoc]; exact h3⟩

set_option maxRecDepth 100000 in
set_option maxHeartbeats 4000000 in
theorem words_h (U : Option Addr) (n c : Nat) (u : List Int) (B : Option Addr) (m d : Nat) (A : List Int) (w : World) (hU : Hid (Sl u16E w U n c u)) (hu : Hid (∀ x ∈ u, U16 x)) (hA : Hid (Sl intE w B m d A)) (ha : Hid (∀ z ∈ A, I64 z)) (hn : n ≤ 1000000) (ps : List Plc) (hps : Hid (Whl u ps)) :
    Calls Try.prog 20 #[.slice U n c, .slice B m d] w fun e w' => MadeWrds w (wrds A u ps) (fars A u ps) e w' := by
  have hx32 := Lib.hid (adv_i64 ha.out 32)
  refine (callsIn_wide (n := 5)).1 ?_
  refine callsIn_of_wp_marks Try.func20 rfl trivial ?_ rfl
  simp only [Try.ntmps20, List.size_toArray, List.length_cons, List.length_nil, Nat.reduceAdd, Nat.reduceSub, Array.replicate_succ, Array.replicate_zero, List.push_toArray, List.append_toArray, List.nil_append, List.cons_append]
  refine wpIn_wide.2 ?_
  have ca := fun W h => adv_h 32 B m d A W (by unfold U16; omega) h
  replace ca := Lib.hid ca
  go_wp2_with (first | (go_at_call 38; (with_reducible refine (ca.out _ (Lib.hid ?_)).mono ?_); (exact hA.out.below (((((Below.refl _ _).alloc (Nat.le_refl _) _).alloc (by simp) _).alloc (by simp; omega) _).alloc (by simp; omega) _)); rintro e w1 ⟨rfl, rfl⟩) | (go_at_call 37; (with_reducible refine (cut_any _ _).mono ?_); rintro e w1 ⟨rfl, rfl⟩) | (go_at_call 39; (with_reducible refine (places_h _ _ _ _).mono ?_); rintro e w1 ⟨rfl, rfl⟩))
  simp only [Nat.add_assoc, Nat.reduceAdd]
  generalize hW0 : World.alloc _ (Obj.cells #[Value.slice U n c] 36) = W0
  have hst : WI w n c m d U B A u [] (.slice none 0 0) W0 := by rw [← hW0]; exact WI.start w n c m d U B A u _ _ _ _ _ _ _
  clear hW0 ca
  have hz0 := hst.base
  refine (wpIn_wide (n := 5)).1 ?_
  refine wpIn_rangeFunc_ownH rfl (by omega) (gf := 52) (lb := #[.pointer (some ⟨w.heap.size + 6, 0, none⟩)]) rfl trivial (enters_of Try.func52 (by kernel_rfl) rfl)
    (places_stops (5 - 1) (w.heap.size + 6) n c (by omega) U u w W0 hU hu hn hst.hb (by omega) (hst.b8.cell 0 _ rfl)) KpB.trans (KpB.book (by omega) (by omega)) (Below.refl _ _) (fun _ => rfl)
    (fun pre W => ∃ v, WI w n c m d U B A u (plcs pre) v W) (fun _ _ _ => False)
    (fun s X Y row hs hg hr => by obtain ⟨v, h⟩ := hs; exact ⟨v, h.own hg (fun r e => ⟨by have := (hr r e).1; omega, (hr r e).2⟩)⟩)
    (fun _ _ _ _ _ hs _ _ => hs) ⟨_, hst⟩
    (fun x a' W => ∃ Bx, w.heap.size + 7 ≤ Bx ∧ Box W Bx [.int .i64 x.1.s, .int .i64 x.1.t, .int .i64 x.1.e] ∧ a' = { tmps := #[.slice U n c, .slice B m d, .pointer (some ⟨w.heap.size, 0, none⟩), .pointer (some ⟨w.heap.size + 1, 0, none⟩), .pointer (some ⟨w.heap.size + 2, 0, none⟩), .pointer (some ⟨w.heap.size + 3, 0, none⟩), .pointer (some ⟨w.heap.size + 4, 0, none⟩), .pointer (some ⟨w.heap.size + 5, 0, none⟩), .pointer (some ⟨Bx, 0, none⟩), undef, undef, undef, .tuple #[.int .i64 (cutI (adv A 32)), .bool (farI (adv A 32))], .slice B m d, .int .i64 (adv A 32), .tuple #[.int .i64 (cutI (adv A 32)), .bool (farI (adv A 32))], .int .i64 (cutI (adv A 32)), .bool (farI (adv A 32)), .slice U n c, .func (.func 52) #[] #[.pointer (some ⟨w.heap.size + 6, 0, none⟩)], .agg #[.int .i64 x.1.s, .int .i64 x.1.t, .int .i64 x.1.e], undef, undef, undef, undef, undef, undef, undef, undef, undef, undef, undef, undef, undef, undef, undef, undef, undef, undef, undef, undef, undef, undef, undef, undef, undef, undef, undef, undef, undef, undef, undef, undef, undef, undef, undef, undef, undef, undef, undef, undef, undef, undef, undef], defers := [] })
    (fun x a' s X Y row hs hg hr => by obtain ⟨Bx, h1, h2, h3⟩ := hs; exact ⟨Bx, h1, h2.own hg (fun r e => (hr r e).2), h3⟩) ?assign ?body ?done ?stop
  case assign =>
    rintro l pre x W K ⟨v, hI⟩ hK
    gi_wp2
    exact hK _ _ ((KeepsOthers.alloc _ _).from _) ⟨(Below.refl _ W).alloc (by have := hI.base; omega) _, World.cell?_of_block (a := ⟨w.heap.size + 6, 0, none⟩) (Below.heap_alloc W _ _ hI.b8.lt)⟩ ⟨v, hI.below ((Below.refl _ _).alloc (Nat.le_refl _) _)⟩ ⟨W.heap.size, hI.base, Box.new W [_, _, _] _, rfl⟩
  case body =>
    rintro l pre ⟨⟨s, t, en⟩, hx1, hx2⟩ a' W hl - ⟨v, hI⟩ ⟨Bx, hBx, hbx, rfl⟩ hlt
    dsimp only at hx1 hx2 hbx ⊢
    obtain ⟨a0, rfl⟩ : ∃ a0, U = some a0 := by
      cases U with
      | none => have := (hU.out.nil rfl).1; omega
      | some a0 => exact ⟨a0, rfl⟩
    have hsl := slice_u16 a0 n c s t (by omega) (by have := hU.out.cap; omega) (by have := hU.out.cap; omega)
    have m1 : Hid (∀ y : Later W, Calls Try.prog 22 #[.slice (some (a0.add s)) (t - s) (c - s), .slice B m d] y.w fun e w' => e = .returned (.tuple #[.int .i64 (cutI (wideS A (cut u s t))), .bool (farI (wideS A (cut u s t)))]) ∧ Below y.w.heap.size y.w w') := by
      refine Lib.hid (fun y => ?_)
      have hb := hI.hb.trans (y.h.mono hI.hb.size)
      exact wide_h (some (a0.add s)) (t - s) (c - s) (cut u s t) B m d A y.w (Lib.hid (by
        have h := (hU.out.below hb).sub u16E_len (Nat.le_of_lt hx1) hx2
        rwa [Nat.mul_one] at h)) (Lib.hid (fun z hz => hu.out z (List.mem_of_mem_take (List.mem_of_mem_drop hz)))) (Lib.hid (hA.out.below hb)) ha (by omega)
    generalize hW1 : cutI (wideS A (cut u s t)) = W1 at *
    generalize he1 : farI (wideS A (cut u s t)) = e1 at *
    replace hW1 := Lib.hid hW1
    replace he1 := Lib.hid he1
    have q2 := Later.cell hI.b2.lt (hI.b2.cell 0 _ rfl)
    have q3 := Later.cell hI.b3.lt (hI.b3.cell 0 _ rfl)
    have p0 := Later.cell hbx.lt (hbx.cell 0 _ rfl)
    have p1 := Later.cell hbx.lt (hbx.cell 1 _ rfl)
    have hyp := Lib.hid hI
    clear hI
    gi_wp2
    refine wpIn_region_later_round W (by kernel_rfl) (by kernel_rfl) (by kernel_rfl) (Below.refl _ _) ?_
    repeat (quiet_step ((go_at_call 22; (with_reducible exact Later.call _ (m1.out _)))))
    refine wpQuiet_nil ?_
    rintro wq ⟨⟨_, hbq⟩, rfl⟩
    have hI1 := hyp.out.below hbq
    have hb1 := hbx.below hbq
    clear q2 q3 p0 p1 m1 hsl hbx
    obtain ⟨k2, k3, k4, k5, k6, k7, f4, f5⟩ := hI1.cells
    have p0 := hb1.cell 0 _ rfl
    have p1 := hb1.cell 1 _ rfl
    have p2 := hb1.cell 2 _ rfl
    clear hb1
    gi_upto_region 6 with fail
    generalize hW5 : World.alloc wq _ = W5 at *
    have hbw : Box W5 wq.heap.size [.int .i64 s, .int .i64 t, .int .i64 W1, .int .i64 0, .int .i64 en] := by rw [← hW5]; exact Box.new wq [_, _, _, _, _] _
    have hB5 : Below wq.heap.size wq W5 := by rw [← hW5]; exact (Below.refl _ _).alloc (Nat.le_refl _) _
    have p2' : W5.cell? ⟨Bx, 2, none⟩ = some (.int .i64 en) := by rw [← p2]; exact hB5.cell (p := ⟨Bx, 2, none⟩) (World.block_lt_of_cell? _ _ p2)
    have hgw : w.heap.size + 7 ≤ wq.heap.size := hI1.base
    clear hW5 k2 k3 k4 k5 k6 k7 f4 f5 p0 p1 p2
    have hI5 := hI1.below hB5
    have hlenv : ∀ W, (Builtin.len_ #[48] 3 #[v]).run Try.prog W = .ok (.int .i64 ((wrds A u (plcs pre)).length : Int)) W := by
      obtain ⟨E, c', rfl, _, _⟩ := Sl.own hI5.row wrdE_len (by omega)
      intro W
      exact run_len_slice (P := Try.prog) (w := W) 48 3 E _ c' Try.underlying48
    have hpe : (plcs pre).isEmpty = decide ((wrds A u (plcs pre)).length = 0) := by rw [wrds_len]; cases (plcs pre) <;> simp
    have hll : (wrds A u (plcs pre)).length ≤ n := by rw [wrds_len]; simp [plcs]; omega
    obtain ⟨bb, hbb⟩ : ∃ bb, fars A u (plcs pre) = bb := ⟨_, rfl⟩
    obtain ⟨k2, k3, k4, k5, k6, k7, f4, f5⟩ := hI5.cells
    rw [hbb] at k5
    obtain ⟨l0, hl0⟩ : ∃ l0, wrds A u (plcs pre) = l0 := ⟨_, rfl⟩
    rw [hl0] at hlenv hpe hll
    obtain ⟨lq, hlq⟩ : ∃ lq, l0.length = lq := ⟨_, rfl⟩
    rw [hlq] at hlenv hpe hll
    replace hbb := Lib.hid hbb
    replace hl0 := Lib.hid hl0
    replace hlq := Lib.hid hlq
    replace hpe := Lib.hid hpe
    replace hI1 := Lib.hid hI1
    replace hI5 := Lib.hid hI5
    replace hB5 := Lib.hid hB5
    replace hbq := Lib.hid hbq
    replace hbw := Lib.hid hbw
    obtain ⟨gw, hgw2⟩ : ∃ gw, wq.heap.size = gw := ⟨_, rfl⟩
    rw [hgw2] at hbw hgw ⊢
    replace hgw2 := Lib.hid hgw2
    by_cases hcase : 0 < lq ∧ en = 0
    · obtain ⟨hpos, rfl⟩ := hcase
      have hyes : gapOf A (plcs pre).isEmpty ⟨s, t, 0⟩ = cutI (adv A 32) ∧ gapF A (plcs pre).isEmpty ⟨s, t, 0⟩ = farI (adv A 32) := by
        have hc : (plcs pre).isEmpty = false ∧ (0 : Nat) = 0 := ⟨by rw [hpe.out]; simp only [decide_eq_false_iff_not]; omega, rfl⟩
        exact ⟨by unfold gapOf; rw [if_pos hc], by unfold gapF; rw [decide_eq_true hc]; rfl⟩
      replace hyes := Lib.hid hyes
      obtain ⟨G, hG0⟩ : ∃ G, cutI (adv A 32) = G := ⟨_, rfl⟩
      obtain ⟨F2, hF0⟩ : ∃ F2, farI (adv A 32) = F2 := ⟨_, rfl⟩
      rw [hG0] at k6
      rw [hF0] at k7
      have b0 := hbw.out.cell 0 _ rfl
      have b1 := hbw.out.cell 1 _ rfl
      have b2 := hbw.out.cell 2 _ rfl
      have b3 := hbw.out.cell 3 _ rfl
      have b4 := hbw.out.cell 4 _ rfl
      have f3 := hbw.out.free 3 (by simp)
      have hbw2 := Lib.hid (hbw.out.set 3 (.int .i64 G) (by simp))
      have hB6 : Hid (Below wq.heap.size wq (W5.setCell ⟨gw, 3, none⟩ (.int .i64 G))) := Lib.hid (hB5.out.setCell (p := ⟨gw, 3, none⟩) (by rw [hgw2.out]; exact Nat.le_refl _) _)
      replace hG0 := Lib.hid hG0
      replace hF0 := Lib.hid hF0
      gi_upto_region 8 with fail
      generalize hW6 : World.setCell W5 _ _ = W6 at *
      have hI6 := Lib.hid (hI1.out.below hB6.out)
      clear k2 k3 k4 k5 k6 k7 f4 f5 b0 b1 b2 b3 b4 f3 hW6 hbw
      obtain ⟨k2, k3, k4, k5, k6, k7, f4, f5⟩ := hI6.out.cells
      rw [hbb.out] at k5
      rw [hF0.out] at k7
      rw [hG0.out] at k6
      have b0 := hbw2.out.cell 0 _ rfl
      have b1 := hbw2.out.cell 1 _ rfl
      have b2 := hbw2.out.cell 2 _ rfl
      have b3 := hbw2.out.cell 3 _ rfl
      have b4 := hbw2.out.cell 4 _ rfl
      have hlit := Lib.hid (Holds.lit (f := wrdE) W6 [⟨s, t, W1, G, ((0 : Nat) : Int)⟩] 58)
      have hown := Lib.hid (own_below hI6.out.row ((Below.refl _ _).alloc (Nat.le_refl _) (.cells ([(⟨s, t, W1, G, ((0 : Nat) : Int)⟩ : Wrd)].flatMap wrdE).toArray 58)))
      have hbase : Hid (w.heap.size + 7 ≤ (W6.alloc (.cells ([(⟨s, t, W1, G, ((0 : Nat) : Int)⟩ : Wrd)].flatMap wrdE).toArray 58)).heap.size) := Lib.hid (by have := hI6.out.base; simp; omega)
      rw [hl0.out, hlq.out] at hown
      cases bb
      all_goals
        cases e1
        all_goals
          gi_wp2_with (gi_at_builtin; refine append_row_in rfl (.tmp 54) (.tmp 56) 48 58 rfl _ 40 Try.underlying48 infoW rfl (by decide) (by decide) wrdE_len wrdE_one (w.heap.size + 7) v _ l0 rfl hown.out _ _ 1 1 [_] rfl (fun h => by cases h) (Lib.hid rfl) hlit.out (by omega) hbase.out ?_; intro v' w' h3 h4 h5; obtain ⟨E', c'', rfl, _, _⟩ := Sl.own h3 wrdE_len (by omega); have hG := Lib.hid h4; have hR := Lib.hid h3; obtain ⟨_, _, g4, g5, _, _, _, _⟩ := hI6.out.grown (l := []) (k := 0) h4; have z4 := g4.cell 0 _ rfl; have z5 := g5.cell 0 _ rfl; have zf4 := g4.free 0 (by simp); have zf5 := g5.free 0 (by simp); rw [hbb.out] at z5; clear h3 h4 h5 g4 g5)
          exact WI.close hyp.out hbq.out hB6.out hl0.out hlq.out hbb.out hR.out hG.out (by unfold wrdOf; rw [hyes.out.1, hW1.out, hG0.out]) (by unfold farOf; rw [hyes.out.2, he1.out, hF0.out]; simp)
    · have hno : gapOf A (plcs pre).isEmpty ⟨s, t, en⟩ = 0 ∧ gapF A (plcs pre).isEmpty ⟨s, t, en⟩ = false := by
        have hc : ¬ ((plcs pre).isEmpty = false ∧ en = 0) := by
          rw [hpe.out]; simp only [decide_eq_false_iff_not]; omega
        exact ⟨by unfold gapOf; rw [if_neg hc], by unfold gapF; rw [decide_eq_false hc]; rfl⟩
      replace hno := Lib.hid hno
      have b0 := hbw.out.cell 0 _ rfl
      have b1 := hbw.out.cell 1 _ rfl
      have b2 := hbw.out.cell 2 _ rfl
      have b3 := hbw.out.cell 3 _ rfl
      have b4 := hbw.out.cell 4 _ rfl
      have hlit := Lib.hid (Holds.lit (f := wrdE) W5 [⟨s, t, W1, 0, en⟩] 58)
      have hown := Lib.hid (own_below hI5.out.row ((Below.refl _ _).alloc (Nat.le_refl _) (.cells ([(⟨s, t, W1, 0, en⟩ : Wrd)].flatMap wrdE).toArray 58)))
      have hbase : Hid (w.heap.size + 7 ≤ (W5.alloc (.cells ([(⟨s, t, W1, 0, en⟩ : Wrd)].flatMap wrdE).toArray 58)).heap.size) := Lib.hid (by have := hI5.out.base; simp; omega)
      rw [hl0.out, hlq.out] at hown
      have hways : (lq = 0) ∨ (0 < lq ∧ ((en : Int) == 0) = false) := by
        by_cases h : 0 < lq
        · exact .inr ⟨h, by have : en ≠ 0 := fun e => hcase ⟨h, e⟩; simpa using this⟩
        · exact .inl (by omega)
      clear hcase
      rcases hways with rfl | ⟨hpos, hen⟩
      all_goals
        cases bb
        all_goals
          gi_wp2_with (gi_at_builtin; refine append_row_in rfl (.tmp 54) (.tmp 56) 48 58 rfl _ 40 Try.underlying48 infoW rfl (by decide) (by decide) wrdE_len wrdE_one (w.heap.size + 7) v _ l0 rfl hown.out _ _ 1 1 [_] rfl (fun h => by cases h) (Lib.hid rfl) hlit.out (by omega) hbase.out ?_; intro v' w' h3 h4 h5; obtain ⟨E', c'', rfl, _, _⟩ := Sl.own h3 wrdE_len (by omega); have hG := Lib.hid h4; have hR := Lib.hid h3; obtain ⟨_, _, g4, g5, _, _, _, _⟩ := hI5.out.grown (l := []) (k := 0) h4; have z4 := g4.cell 0 _ rfl; have z5 := g5.cell 0 _ rfl; have zf4 := g4.free 0 (by simp); have zf5 := g5.free 0 (by simp); rw [hbb.out] at z5; clear h3 h4 h5 g4 g5)
          exact WI.close hyp.out hbq.out hB5.out hl0.out hlq.out hbb.out hR.out hG.out (by unfold wrdOf; rw [hno.out.1, hW1.out]) (by unfold farOf; rw [hno.out.2, he1.out]; simp)
  case done =>
    rintro D ys W hD hS ⟨v, hI⟩ hK
    have hps2 := hS.uniq hps.out
    rw [hps2] at hI
    obtain ⟨k2, k3, k4, k5, k6, k7, f4, f5⟩ := hI.cells
    obtain ⟨E, c', rfl, hSl, hN⟩ := Sl.own hI.row wrdE_len (by omega)
    replace hSl := Lib.hid hSl
    replace hI := Lib.hid hI
    replace hK := Lib.hid hK
    replace hps2 := Lib.hid hps2
    clear hS hN k2 k3 k6 k7
    go_wp2_with fail
    go_region
    go_wp2_with fail
    have hk : Keep w.heap.size W ((W.setCell ⟨w.heap.size + 2, 0, none⟩ (.slice E (wrds A u ps).length c')).setCell ⟨w.heap.size + 3, 0, none⟩ (.bool (fars A u ps))).drew :=
      ((Keep.set W _ 0 _ (by omega)).trans (Keep.set _ _ 0 _ (by omega))).trans (keep_drew _)
    have hK2 := hk.o.same D _ hK.out rfl
    have hc4 := cell_put (o' := .deferred none) (a := ⟨w.heap.size + 2, 0, none⟩) (v := .slice E (wrds A u ps).length c') (w := ((W.setCell ⟨w.heap.size + 2, 0, none⟩ (.slice E (wrds A u ps).length c')).setCell ⟨w.heap.size + 3, 0, none⟩ (.bool (fars A u ps))).drew)
      ((World.cell?_setCell_other _ _ _ _ (by simp)).trans (World.cell?_setCell_same _ _ _ k4)) hK2 rfl
    have hc5 := cell_put (o' := .deferred none) (a := ⟨w.heap.size + 3, 0, none⟩) (v := .bool (fars A u ps)) (w := ((W.setCell ⟨w.heap.size + 2, 0, none⟩ (.slice E (wrds A u ps).length c')).setCell ⟨w.heap.size + 3, 0, none⟩ (.bool (fars A u ps))).drew)
      (World.cell?_setCell_same _ _ _ ((World.cell?_setCell_other _ _ _ _ (by simp)).trans k5)) hK2 rfl
    have hlt4 : ∀ i, i < 7 → (Value.slice E (wrds A u ps).length c').ownBlock ≠ some (w.heap.size + i) := fun i hi e => by have := (hI.out.row.lt _ e).1; omega
    have hrow := row_put (D := D) (o' := .deferred none) (row_drew (own_set (own_set hI.out.row (hlt4 2 (by omega)) 0 (.slice E (wrds A u ps).length c')) (hlt4 3 (by omega)) 0 (.bool (fars A u ps)))) hK2 rfl
    obtain ⟨hS1, hS2⟩ := rowSl hrow wrdE_len (by omega)
    refine ⟨by simp, .inl ⟨_, _, rfl, run_takeDeferred hK2, ?_⟩⟩
    refine ⟨.tuple #[.slice E (wrds A u ps).length c', .bool (fars A u ps)], ?_, E, c', rfl, hS1, ?_, hS2.mono (by omega)⟩
    · simp [results, Try.f20, go_sem, hc4, hc5]
    · exact (hI.out.hb.trans hk.b).trans (belowK_b (w := W0) (by omega) _ D _ _ (by omega) hK2 rfl rfl)
  case stop =>
    rintro D c' pre W _ _ h _
    exact h.elim
end Go.Proofs.Ytnmfcbmdopmglaa
