/-
  Contract of the document's Words: the walk.
-/
import Derived.Test.YtnmfcbmdopmglaaRWords
import Derived.Test.YtnmfcbmdopmglaaCutRef
namespace Go.Proofs.Ytnmfcbmdopmglaa
open Go.RowKit
set_option linter.unusedVariables false

theorem infoW : (Try.prog.info? 58).map (fun i => (i.zero, i.size, i.bytes)) = some (some (wrdV ⟨0, 0, 0, 0, 0⟩), 5, 40) := by kernel_rfl
/-- A number in memory, for measures. -/
def rdN (w : World) (g i : Nat) : Nat := match w.cell? ⟨g, i, none⟩ with | some (.int _ x) => x.toNat | _ => 0
theorem rdN_of {w : World} {g i k : Nat} {q : IntKind} (h : w.cell? ⟨g, i, none⟩ = some (.int q (k : Int))) : rdN w g i = k := by unfold rdN; rw [h]; simp

/-- The word that is under way, in its box: the frame round it. -/
structure WBox (w0 : World) (g : Nat) (x : Wrd) (v : Value) (l : List Wrd) (wr : World) : Prop where
  box : Box wr g (wrdE x)
  ge : w0.heap.size ≤ g
  row : GRow wrdE 58 5 w0 v l wr
  far : v.ownBlock ≠ some g
section
variable {w0 wr w' : World} {g : Nat} {x : Wrd} {v : Value} {l : List Wrd}
theorem WBox.start (h : GRow wrdE 58 5 w0 v l wr) (x : Wrd) (t : TypeId) : WBox w0 wr.heap.size x v l (wr.alloc (.cells (wrdE x).toArray t)) :=
  ⟨Box.new wr (wrdE x) t, h.hb.size, h.alloc _, fun e => by have := (h.row.lt _ e).2; omega⟩
theorem WBox.below (h : WBox w0 g x v l wr) (hb : Below wr.heap.size wr w') : WBox w0 g x v l w' := ⟨h.box.below hb, h.ge, h.row.below hb, h.far⟩
theorem own_set {e : TypeId} {base size n : Nat} {xs : List Value} (h : wr.ownsRow base e size v n xs) (hg : v.ownBlock ≠ some g) (i : Nat) (u : Value) : (wr.setCell ⟨g, i, none⟩ u).ownsRow base e size v n xs :=
  h.kept (row := some g) ⟨rfl, rfl, rfl, by simp [World.setCell], fun k hk hne => Below.heap_setCell _ _ _ _ (fun e => hne (by rw [e]))⟩ (.inr hg)
theorem GRow.set {α : Type} {f : α → List Value} {e : TypeId} {size : Nat} {l : List α} (h : GRow f e size w0 v l wr) (hg : v.ownBlock ≠ some g) (hge : w0.heap.size ≤ g) (i : Nat) (u : Value) : GRow f e size w0 v l (wr.setCell ⟨g, i, none⟩ u) :=
  ⟨own_set h.row hg i u, h.hb.setCell (p := ⟨g, i, none⟩) hge u⟩
theorem WBox.set (h : WBox w0 g x v l wr) (i : Nat) (hi : i < 5) (u : Value) (y : Wrd) (hy : (wrdE x).set i u = wrdE y) : WBox w0 g y v l (wr.setCell ⟨g, i, none⟩ u) :=
  ⟨by have := h.box.set i u (by simpa [wrdE] using hi); rwa [hy] at this, h.ge, h.row.set h.far h.ge i u, h.far⟩
theorem WBox.cells (h : WBox w0 g x v l wr) : wr.cell? ⟨g, 0, none⟩ = some (.int .i64 x.s) ∧ wr.cell? ⟨g, 1, none⟩ = some (.int .i64 x.t) ∧ wr.cell? ⟨g, 2, none⟩ = some (.int .i64 x.w) ∧ wr.cell? ⟨g, 3, none⟩ = some (.int .i64 x.g) ∧ wr.cell? ⟨g, 4, none⟩ = some (.int .i64 x.e) :=
  ⟨h.box.cell 0 _ rfl, h.box.cell 1 _ rfl, h.box.cell 2 _ rfl, h.box.cell 3 _ rfl, h.box.cell 4 _ rfl⟩
theorem WBox.free (h : WBox w0 g x v l wr) (i : Nat) (hi : i < 5) : wr.frozen? ⟨g, i, none⟩ = false := h.box.free i (by simpa [wrdE] using hi)
end

theorem RWInv.next {w0 w' : World} {A u : List Int} {k z t en : Nat} {qs : List Plc} {l0 : List Wrd} {v' : Value} {b b' : Bool} {y : Wrd} (hch : Chn u 0 qs z) (hg : Gap u z k en) (hkt : k < t) (hr : Run u k t) (he : wAt u t = false)
    (hl0 : wrds A u qs = l0) (hb : b = fars A u qs) (hrow : GRow wrdE 58 5 w0 v' (l0 ++ [y]) w') (hy : y = wrdOf A u qs.isEmpty ⟨k, t, en⟩) (hb' : b' = (b || farOf A u qs.isEmpty ⟨k, t, en⟩)) :
    RWInv w0 A u (k + 1) (qs ++ [⟨k, t, en⟩]) t v' b' w' := by
  have htl := hr.le hg.2.1
  refine ⟨chn_snoc qs 0 z ⟨k, t, en⟩ hch ⟨hg, hkt, hr, he⟩, ?_, by rw [wrds_snoc, hl0, ← hy]; exact hrow, by rw [fars_snoc, ← hb, hb']⟩
  by_cases h : k + 1 < t
  · exact .inl ⟨by omega, h, by rw [show k + 1 - 1 = k by omega]; exact hr⟩
  · have e : t = k + 1 := by omega
    subst e
    exact .inr ⟨Nat.le_refl _, 0, Gap.nil (by omega)⟩

set_option maxRecDepth 100000 in
set_option maxHeartbeats 3200000 in
theorem rwords_h (U : Option Addr) (n c : Nat) (u : List Int) (B : Option Addr) (m d : Nat) (A : List Int) (w : World) (hU : Hid (Sl u16E w U n c u)) (hu : Hid (∀ x ∈ u, U16 x)) (hA : Hid (Sl intE w B m d A)) (ha : Hid (∀ z ∈ A, I64 z)) (hn : n ≤ 20000) (ps : List Plc) (hps : Hid (Whl u ps)) :
    Calls Try.prog 21 #[.slice U n c, .slice B m d] w fun e w' => MadeWrds w (wrds A u ps) (fars A u ps) e w' := by
  have hst := Lib.hid (RWInv.start w A u)
  go_enter Try.func21, Try.ntmps21
  go_wp2_with fail
  go_loopw [6, 7, 8, 9] (fun v f z i wr => ∃ (k zn : Nat) (qs : List Plc) (b : Bool), k ≤ n ∧ zn ≤ n ∧ i = .int .i64 k ∧ z = .int .i64 zn ∧ f = .bool b ∧ Hid (RWInv w A u k qs zn v b wr)) (fun _ _ _ i _ => n - (intOf i).toNat)
  case atStart => exact ⟨0, 0, [], false, Nat.zero_le _, Nat.zero_le _, rfl, rfl, rfl, hst⟩
  case round =>
    clear hst
    obtain ⟨k, zn, qs, b, hk, hz, rfl, rfl, rfl, hR⟩ := hrel
    by_cases hlt : k < n
    case neg =>
      have e : k = n := by omega
      have hle := chn_le qs 0 zn hR.out.chn (Nat.zero_le _)
      have hul := hU.out.len
      obtain ⟨m', hg⟩ : ∃ m', Gap u zn u.length m' := by
        rcases hR.out.pos with ⟨h1, h2, _⟩ | ⟨h1, m', h2⟩
        · omega
        · exact ⟨m', by rw [← hul, ← e]; exact h2⟩
      obtain rfl : qs = ps := Whl.uniq ⟨zn, m', hR.out.chn, hg⟩ hps.out
      have hb := hR.out.far
      obtain ⟨E, c', rfl, hS, hN⟩ := hR.out.row.fin wrdE_len (by omega)
      have hM : Hid (MadeWrds w (wrds A u qs) (fars A u qs) (.returned (.tuple #[.slice E (wrds A u qs).length c', .bool b])) wr) := Lib.hid ⟨E, c', by rw [hb], hS, hR.out.row.hb, hN⟩
      have hlt' : ¬ (k : Int) < (n : Int) := by omega
      clear hS hN hR hg hle e hb hul
      generalize (wrds A u qs).length = q at *
      go_wp2_with fail
      go_ret2
      exact hM.out
    have i1 : (0 : Int) ≤ (k : Int) := by omega
    have i2 : (k : Int) < (n : Int) := by omega
    have hbw := hR.out.row.hb
    have hU2 := Lib.hid (hU.out.below hbw)
    have hA2 := Lib.hid (hA.out.below hbw)
    have c1 := Lib.hid (letter_h U n c u k wr hU2 hu (by omega))
    have c2 := Lib.hid (letter_prev U n c u k wr hU2 hu (by omega))
    replace hbw := Lib.hid hbw
    have hku : k < u.length := by rw [← hU.out.len]; exact hlt
    rcases hw : wAt u k with _ | _
    · have hnx := Lib.hid (hR.out.stay hku (.inl hw))
      rw [hw] at c1
      clear hw c2
      go_wp2_with (go_at_call 40; refine c1.out.mono ?_; rintro e w1 ⟨rfl, rfl⟩)
      go_roundw
      case rel => exact ⟨k + 1, zn, qs, b, by omega, hz, by go_num, rfl, rfl, hnx⟩
      case measure => simp [intOf]; omega
    · rcases hp : wPrev u k with _ | _
      · obtain ⟨hzk, mm, hg⟩ := hR.out.new hw hp
        replace hg := Lib.hid hg
        obtain ⟨a0, rfl, hx1, hx2⟩ := u16_cell hU.out hlt
        clear hx1 hx2
        have hch := Lib.hid hR.out.chn
        have hfar := Lib.hid hR.out.far
        have hB : WBox w wr.heap.size ⟨k, k, 0, 0, 0⟩ u6 (wrds A u qs) (wr.alloc (.cells #[.int .i64 k, .int .i64 k, .int .i64 0, .int .i64 0, .int .i64 0] 58)) := WBox.start hR.out.row ⟨k, k, 0, 0, 0⟩ 58
        have hql : (wrds A u qs).length ≤ n := by have := chn_len qs 0 zn hR.out.chn; rw [wrds_len]; omega
        have hwk := Lib.hid hw
        rw [hw] at c1
        rw [hp] at c2
        clear hw hp hR hA2 hU2
        generalize hl0 : wrds A u qs = l0 at *
        replace hl0 := Lib.hid hl0
        go_wp2_with (go_at_call 40; first | (refine c1.out.mono ?_; rintro e w1 ⟨rfl, rfl⟩; clear c1) | (refine c2.out.mono ?_; rintro e w1 ⟨rfl, rfl⟩))
        generalize hW : World.alloc wr _ = V at *
        replace hB := Lib.hid hB
        generalize wr.heap.size = g at *
        clear hW c2
        go_loopw [] (fun wx => ∃ t : Nat, k ≤ t ∧ t ≤ n ∧ Hid (Run u k t) ∧ Hid (WBox w g ⟨k, t, 0, 0, 0⟩ u6 l0 wx)) (fun wx => n - rdN wx g 1)
        case atStart => exact ⟨k, Nat.le_refl _, hk, Lib.hid (Run.nil u k), hB⟩
        case round =>
          clear hB
          obtain ⟨t, hkt, htn, hrun, hB⟩ := hrel
          have t1 : (0 : Int) ≤ (t : Int) := by omega
          have c1 := Lib.hid (letter_h (some a0) n c u t wr (Lib.hid (hU.out.below hB.out.row.hb)) hu (by omega))
          obtain ⟨b0, b1, b2, b3, b4⟩ := hB.out.cells
          have f1 := hB.out.free 1 (by omega)
          simp only at b0 b1 b2 b3 b4
          rcases hw : wAt u t with _ | _
          · have hkt2 : k < t := by
              rcases Nat.lt_or_ge k t with h1 | h1
              · exact h1
              · have e : k = t := by omega
                subst e; rw [hwk.out] at hw; cases hw
            have hend := Lib.hid hw
            rw [hw] at c1
            clear hw
            go_wp2_with (go_at_call 40; refine c1.out.mono ?_; rintro e w1 ⟨rfl, rfl⟩)
            have hB3 : Hid (WBox w g ⟨k, t, 0, 0, ((0 : Nat) : Int)⟩ u6 l0 wr) := hB
            clear hB b0 b1 b2 b3 b4 f1
            go_loopw [11, 12] (fun s kk wx => ∃ (j e : Nat) (sb : Bool), zn ≤ j ∧ j ≤ k ∧ e ≤ j ∧ kk = .int .i64 j ∧ s = .bool sb ∧ Hid (sb = hasSp u zn j) ∧ Hid (e = endsN (cut u zn j)) ∧ Hid (WBox w g ⟨k, t, 0, 0, (e : Int)⟩ u6 l0 wx)) (fun _ kk _ => k - (intOf kk).toNat)
            case atStart => exact ⟨zn, 0, false, Nat.le_refl _, hzk, Nat.zero_le _, rfl, rfl, Lib.hid (hasSp_nil u zn).symm, Lib.hid (endsCut_nil u zn).symm, hB3⟩
            case round =>
              clear hB3
              obtain ⟨j, en, sb, hzj, hjk, hej, rfl, rfl, hsb, hen, hB⟩ := hrel
              by_cases hjlt : j < k
              · have hju : j < u.length := by have := hU.out.len; omega
                obtain ⟨a1, e1, hbb, hcu0⟩ := u16_cell hU.out (show j < n by omega)
                cases e1
                have hcu := (hB.out.row.hb.cell (p := a0.add j) (by rw [add_block]; exact hbb)).trans hcu0
                have hxu := u16_get hu.out j
                have hgx : u[j]? = some (u.getD j 0) := by rw [List.getD_eq_getElem?_getD, List.getElem?_eq_getElem hju]; rfl
                have hs2 := hasSp_snoc hzj hgx
                have he2 := endsCut_snoc hzj hgx
                generalize u.getD j 0 = x at *
                rw [← hsb.out] at hs2
                rw [← hen.out] at he2
                replace hs2 := Lib.hid hs2
                replace he2 := Lib.hid he2
                obtain ⟨x0, x1⟩ := hxu
                obtain ⟨b0, b1, b2, b3, b4⟩ := hB.out.cells
                have f4 := hB.out.free 4 (by omega)
                simp only at b0 b1 b2 b3 b4
                have j0 : (0 : Int) ≤ (j : Int) := by omega
                have j1 : (j : Int) < (n : Int) := by omega
                have j2 : (j : Int) < (k : Int) := by omega
                have e2 : (en : Int) < 1000000 := by omega
                have hB2 : Hid (WBox w g ⟨k, t, 0, 0, ((en + 1 : Nat) : Int)⟩ u6 l0 (wr.setCell ⟨g, 4, none⟩ (.int .i64 ((en : Int) + 1)))) := Lib.hid (hB.out.set 4 (by omega) (.int .i64 ((en : Int) + 1)) ⟨k, t, 0, 0, ((en + 1 : Nat) : Int)⟩ rfl)
                have hcu2 := (hB2.out.row.hb.cell (p := a0.add j) (by rw [add_block]; exact hbb)).trans hcu0
                clear hcu0 hgx
                by_cases h10 : x = 10
                · subst h10
                  have hs3 : Hid (sb = hasSp u zn (j + 1)) := Lib.hid (by rw [hs2.out]; simp)
                  have he3 : Hid (en + 1 = endsN (cut u zn (j + 1))) := Lib.hid (by rw [he2.out]; simp)
                  clear hs2 he2
                  cases sb
                  all_goals
                    go_wp2_with fail
                    go_roundw
                    case rel => exact ⟨j + 1, en + 1, _, by omega, by omega, by omega, by go_num, rfl, hs3, he3, hB2⟩
                    case measure => simp [intOf]; omega
                · have hne : (x == 10) = false := by simpa using h10
                  have he3 : Hid (en = endsN (cut u zn (j + 1))) := Lib.hid (by rw [he2.out]; simp [h10])
                  clear he2
                  rcases h32 : decide (x = 32) with _ | _
                  · have hne2 : (x == 32) = false := by simpa using h32
                    have hs3 : Hid (sb = hasSp u zn (j + 1)) := Lib.hid (by rw [hs2.out, h32]; simp)
                    clear hs2 h32 h10
                    cases sb
                    all_goals
                      go_wp2_with fail
                      go_roundw
                      case rel => exact ⟨j + 1, en, _, by omega, by omega, by omega, by go_num, rfl, hs3, he3, hB⟩
                      case measure => simp [intOf]; omega
                  · have hs3 : Hid (true = hasSp u zn (j + 1)) := Lib.hid (by rw [hs2.out, h32]; simp)
                    obtain rfl : x = 32 := by simpa using h32
                    clear hs2 h32 h10 hne
                    cases sb
                    all_goals
                      go_wp2_with fail
                      go_roundw
                      case rel => exact ⟨j + 1, en, _, by omega, by omega, by omega, by go_num, rfl, hs3, he3, hB⟩
                      case measure => simp [intOf]; omega
              · obtain rfl : k = j := by omega
                obtain rfl : en = mm := hen.out.trans hg.out.2.2.2
                have hcond := gap_sp hch.out hg.out hwk.out
                rw [← hsb.out, show qs.length = l0.length by rw [← hl0.out, wrds_len]] at hcond
                have hcap := hU.out.cap
                have hsl := slice_u16 a0 n c k t hkt (by omega) (by omega)
                have cw := rwide_h (some (a0.add k)) (t - k) (c - k) (cut u k t) B m d A wr (Lib.hid (by
                  have h := (hU.out.below hB.out.row.hb).sub u16E_len hkt htn
                  rwa [Nat.mul_one] at h)) (Lib.hid (fun x hx => hu.out x (List.mem_of_mem_take (List.mem_of_mem_drop hx)))) (Lib.hid (hA.out.below hB.out.row.hb)) ha (by omega)
                obtain ⟨W1, hW1⟩ : ∃ W1, cutI (wideS A (cut u k t)) = W1 := ⟨_, rfl⟩
                obtain ⟨e1, he1⟩ : ∃ e1, farI (wideS A (cut u k t)) = e1 := ⟨_, rfl⟩
                rw [hW1, he1] at cw
                replace hW1 := Lib.hid hW1
                replace he1 := Lib.hid he1
                replace cw := Lib.hid cw
                replace hcond := Lib.hid hcond
                obtain ⟨b0, b1, b2, b3, b4⟩ := hB.out.cells
                simp only at b0 b1 b2 b3 b4
                clear hbw hsb hen
                go_wp2_with fail
                refine cw.out.mono ?_; rintro e w2 ⟨rfl, hb2⟩
                have hB3 := hB.out.below hb2
                have hB4 : Hid (WBox w g ⟨k, t, W1, 0, (en : Int)⟩ u6 l0 (w2.setCell ⟨g, 2, none⟩ (.int .i64 W1))) := Lib.hid (hB3.set 2 (by omega) (.int .i64 W1) ⟨k, t, W1, 0, (en : Int)⟩ rfl)
                have f2 := hB3.free 2 (by omega)
                clear b0 b1 b2 b3 b4 cw hb2 hsl
                obtain ⟨b0, b1, b2, b3, b4⟩ := hB3.cells
                simp only at b0 b1 b2 b3 b4
                clear hB hB3
                go_upto_region 20 with fail
                clear b0 b1 b2 b3 b4 f2
                go_cut [7] (fun f wx => Hid (WBox w g ⟨k, t, W1, 0, (en : Int)⟩ u6 l0 wx) ∧ f = .bool (b || e1))
                case first =>
                  cases b
                  all_goals
                    go_wp2_with fail
                    go_meet
                    exact ⟨hB4, rfl⟩
                case rest =>
                clear hB4
                obtain ⟨hB4, rfl⟩ := hcut
                obtain ⟨fb, hfb⟩ : ∃ fb, (b || e1) = fb := ⟨_, rfl⟩
                rw [hfb]
                replace hfb := Lib.hid hfb
                obtain ⟨b0, b1, b2, b3, b4⟩ := hB4.out.cells
                simp only at b0 b1 b2 b3 b4
                have f3 := hB4.out.free 3 (by omega)
                go_upto_region 21 with fail
                go_cut [94] (fun cnd wx => Hid (WBox w g ⟨k, t, W1, 0, (en : Int)⟩ u6 l0 wx) ∧ cnd = .bool (decide (qs.isEmpty = false ∧ en = 0)))
                case first =>
                  obtain ⟨E, c', rfl, hS0, hN0⟩ := hB4.out.row.fin wrdE_len (by omega)
                  replace hS0 := Lib.hid hS0
                  clear hN0
                  cases sb
                  · go_wp2_with fail
                    go_meet
                    exact ⟨hB4, by rw [← hcond.out]; rfl⟩
                  · by_cases h0 : en = 0
                    · subst h0
                      generalize l0.length = q0 at *
                      by_cases hq : 0 < q0
                      · have hq' : decide (0 < q0) = true := decide_eq_true hq
                        go_wp2_with fail
                        go_meet
                        exact ⟨hB4, by rw [← hcond.out, hq']; rfl⟩
                      · have hq' : decide (0 < q0) = false := decide_eq_false hq
                        go_wp2_with fail
                        go_meet
                        exact ⟨hB4, by rw [← hcond.out, hq']; rfl⟩
                    · have h0' : ((en : Int) == 0) = false := by simpa using h0
                      have h1' : decide (en = 0) = false := decide_eq_false h0
                      go_wp2_with fail
                      go_meet
                      exact ⟨hB4, by rw [← hcond.out, h1']; rfl⟩
                case rest =>
                obtain ⟨hB5, rfl⟩ := hcut
                clear b0 b1 b2 b3 b4 f3 hB4 hcond
                obtain ⟨b0, b1, b2, b3, b4⟩ := hB5.out.cells
                simp only at b0 b1 b2 b3 b4
                have f3 := hB5.out.free 3 (by omega)
                have hnx := Lib.hid (fun w' v' b' y h => RWInv.next (w0 := w) (w' := w') (v' := v') (b' := b') (y := y) hch.out hg.out hkt2 hrun.out hend.out hl0.out hfar.out h)
                by_cases hgap : qs.isEmpty = false ∧ en = 0
                · have hyes : Hid (gapOf A qs.isEmpty ⟨k, t, en⟩ = cutI (adv A 32) ∧ gapF A qs.isEmpty ⟨k, t, en⟩ = farI (adv A 32)) := Lib.hid ⟨by unfold gapOf; rw [if_pos hgap], by unfold gapF; rw [decide_eq_true hgap]; rfl⟩
                  rw [decide_eq_true hgap]
                  clear hgap
                  have cadv := Lib.hid (radv_h 32 B m d A wc (by unfold U16; omega) (Lib.hid (hA.out.below hB5.out.row.hb)))
                  have hx32 := Lib.hid (adv_i64 ha.out 32)
                  generalize adv A 32 = x32 at *
                  have cof := Lib.hid (of_any x32 wc hx32.out)
                  go_wp2_with (go_at_call 43; refine cadv.out.mono ?_; rintro e w1 ⟨rfl, rfl⟩)
                  refine cof.out.mono ?_; rintro e w3 ⟨m1, E1, k1, cc1, l1, rfl, hk1, hv1, ht1, hS1, hb1, hfr1⟩
                  have ccut := refcut_any m1 E1 k1 cc1 l1 w3 hS1 (by omega)
                  rw [hv1] at ccut
                  replace ccut := Lib.hid ccut
                  have hB6 := Lib.hid (hB5.out.below hb1)
                  clear hk1 hv1 ht1 hS1 hb1 hfr1 cof cadv hB5 b0 b1 b2 b3 b4 f3
                  go_wp2_with fail
                  refine ccut.out.mono ?_; rintro e w4 ⟨rfl, hb4⟩
                  have hB7 := hB6.out.below hb4
                  clear ccut hB6 hb4
                  obtain ⟨b0, b1, b2, b3, b4⟩ := hB7.cells
                  simp only at b0 b1 b2 b3 b4
                  have f3 := hB7.free 3 (by omega)
                  generalize hG : cutI x32 = G at *
                  generalize hF : farI x32 = F2 at *
                  have hB8 := Lib.hid (hB7.set 3 (by omega) (.int .i64 G) ⟨k, t, W1, G, (en : Int)⟩ rfl)
                  clear hB7
                  replace hG := Lib.hid hG
                  replace hF := Lib.hid hF
                  have hnx2 : Hid (∀ w' v', GRow wrdE 58 5 w v' (l0 ++ [⟨k, t, W1, G, (en : Int)⟩]) w' → RWInv w A u (k + 1) (qs ++ [⟨k, t, en⟩]) t v' (fb || F2) w') := Lib.hid (fun w' v' h => hnx.out w' v' _ _ h (by unfold wrdOf; rw [hyes.out.1, hW1.out]) (by unfold farOf; rw [he1.out, hyes.out.2, ← Bool.or_assoc, hfb.out]))
                  cases fb
                  all_goals
                    go_upto_region 26 with fail
                    generalize hW : World.setCell w4 _ _ = w5 at *
                    clear b0 b1 b2 b3 b4 f3 hW
                    obtain ⟨b0, b1, b2, b3, b4⟩ := hB8.out.cells
                    simp only at b0 b1 b2 b3 b4
                    have hlit := Lib.hid (Holds.lit (f := wrdE) w5 [⟨k, t, W1, G, (en : Int)⟩] 58)
                    have hA3 := hB8.out.row.alloc (.cells ([(⟨k, t, W1, G, (en : Int)⟩ : Wrd)].flatMap wrdE).toArray 58)
                    have hown := Lib.hid hA3.row
                    have hbase := Lib.hid (hB8.out.row.base (.cells ([(⟨k, t, W1, G, (en : Int)⟩ : Wrd)].flatMap wrdE).toArray 58))
                    replace hA3 := Lib.hid hA3
                    clear hB8
                    go_wp2_with (at_builtin; refine append_row rfl (.tmp 110) (.tmp 112) 48 58 rfl _ 40 Try.underlying48 infoW rfl (by decide) (by decide) wrdE_len wrdE_one w.heap.size u6 l0.length l0 rfl hown.out _ _ 1 1 [_] rfl (fun h => by cases h) (Lib.hid rfl) hlit.out (by omega) hbase.out ?_; intro v' w' h3 h4 h5; have hR2 := Lib.hid (hnx2.out w' v' (hA3.out.step h3 rfl h4)); clear h3 h4 h5)
                    go_roundw
                    case rel => exact ⟨k + 1, t, _, _, by omega, htn, by go_num, rfl, rfl, hR2⟩
                    case measure => simp [intOf]; omega
                · have hno : Hid (gapOf A qs.isEmpty ⟨k, t, en⟩ = 0 ∧ gapF A qs.isEmpty ⟨k, t, en⟩ = false) := Lib.hid ⟨by unfold gapOf; rw [if_neg hgap], by unfold gapF; rw [decide_eq_false hgap]; rfl⟩
                  rw [decide_eq_false hgap]
                  have hlit := Lib.hid (Holds.lit (f := wrdE) wc [⟨k, t, W1, 0, (en : Int)⟩] 58)
                  have hA3 := hB5.out.row.alloc (.cells ([(⟨k, t, W1, 0, (en : Int)⟩ : Wrd)].flatMap wrdE).toArray 58)
                  have hown := Lib.hid hA3.row
                  have hbase := Lib.hid (hB5.out.row.base (.cells ([(⟨k, t, W1, 0, (en : Int)⟩ : Wrd)].flatMap wrdE).toArray 58))
                  replace hA3 := Lib.hid hA3
                  clear hgap hB5
                  go_wp2_with (at_builtin; refine append_row rfl (.tmp 110) (.tmp 112) 48 58 rfl _ 40 Try.underlying48 infoW rfl (by decide) (by decide) wrdE_len wrdE_one w.heap.size u6 l0.length l0 rfl hown.out _ _ 1 1 [_] rfl (fun h => by cases h) (Lib.hid rfl) hlit.out (by omega) hbase.out ?_; intro v' w' h3 h4 h5; have hR2 := Lib.hid (hnx.out w' v' fb _ (hA3.out.step h3 rfl h4) (by unfold wrdOf; rw [hno.out.1, hW1.out]) (by unfold farOf; rw [he1.out, hno.out.2, Bool.or_false, hfb.out])); clear h3 h4 h5)
                  go_roundw
                  case rel => exact ⟨k + 1, t, _, _, by omega, htn, by go_num, rfl, rfl, hR2⟩
                  case measure => simp [intOf]; omega
          · have htl : t < n := by have := wAt_lt hw; have := hU.out.len; omega
            have hrun2 := Lib.hid (hrun.out.snoc hw)
            have hB2 := Lib.hid (hB.out.set 1 (by omega) (.int .i64 ((t : Int) + 1)) ⟨k, ((t + 1 : Nat) : Int), 0, 0, 0⟩ rfl)
            rw [hw] at c1
            have hm1 := Lib.hid (rdN_of b1)
            have hm2 := Lib.hid (rdN_of hB2.out.cells.2.1)
            clear hw hB
            go_wp2_with (go_at_call 40; refine c1.out.mono ?_; rintro e w1 ⟨rfl, rfl⟩)
            go_roundw
            case rel => exact ⟨t + 1, by omega, by omega, hrun2, hB2⟩
            case measure => rw [hm1.out, hm2.out]; omega
      · have hnx := Lib.hid (hR.out.stay hku (.inr hp))
        rw [hw] at c1
        rw [hp] at c2
        clear hw hp
        go_wp2_with (go_at_call 40; first | (refine c1.out.mono ?_; rintro e w1 ⟨rfl, rfl⟩; clear c1) | (refine c2.out.mono ?_; rintro e w1 ⟨rfl, rfl⟩))
        go_roundw
        case rel => exact ⟨k + 1, zn, qs, b, by omega, hz, by go_num, rfl, rfl, hnx⟩
        case measure => simp [intOf]; omega
end Go.Proofs.Ytnmfcbmdopmglaa
