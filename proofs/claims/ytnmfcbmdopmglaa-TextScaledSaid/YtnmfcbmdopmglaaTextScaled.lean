/-
  With all advances so many times as great words stand where they did, and are so many times as wide: for every input, no conditions.
-/
import Derived.Test.YtnmfcbmdopmglaaWorks6
import Derived.Test.YtnmfcbmdopmglaaView8
import Derived.Test.YtnmfcbmdopmglaaLaw
import Derived.Test.YtnmfcbmdopmglaaExist6
import Derived.Test.YtnmfcbmdopmglaaTwo6
import Derived.Deep.DeepCutAuto
import Derived.Deep.RegionHeld3
import Derived.ProofKit
import Derived.OpenShut
import Derived.BigGuard
import Derived.Deep.QuietTactic
import Derived.BigQuiet
namespace Go.Proofs.Ytnmfcbmdopmglaa.lawTextScaled
open Go.ChangeShapes Go.WideShapes Go.ChangeAt Go.RowKit Go.Proofs.Ytnmfcbmdopmglaa
set_option linter.unusedVariables false

theorem own : ownKnob Try.prog.godebug = none := by kernel_rfl

set_option maxRecDepth 100000 in
set_option maxHeartbeats 6400000 in
theorem walk (W : World) (U : Option Addr) (n c : Nat) (u : List Int) (hm : c ≤ maxLen) (hU : Sl u16E W U n c u) (hu : ∀ r ∈ u, U16 r) (B : Option Addr) (m d : Nat) (a : List Int) (hd : d ≤ maxLen) (hA : Sl i32E W B m d a) (ha : ∀ r ∈ a, I32 r) (by_ : Int) (wb : (Lit.int .u8 by_).wf = true) :
    Calls Try.prog 9 #[.slice U n c, .slice B m d, .int .u8 by_] W fun e w' => e = .returned (.bool true) ∧ Below W.heap.size W w' := by
  have wb : 0 ≤ by_ ∧ by_ ≤ 255 := by
    simp [Lit.wf, IntKind.min, IntKind.max, IntKind.signed, IntKind.bits] at wb
    omega
  obtain ⟨wb0, wb1⟩ := wb
  obtain ⟨ps, hps⟩ := whl_exists u
  replace hU := Lib.hid hU
  replace hu := Lib.hid hu
  replace hA := Lib.hid hA
  replace ha := Lib.hid ha
  replace hps := Lib.hid hps
  clear hm hd
  by_cases hbig : 3000 < n ∨ 8192 < m
  · by_cases h1 : 3000 < n
    · have h1' : (3000 : Int) < (n : Int) := by omega
      clear hbig
      go_enter Try.func9, Try.ntmps9
      go_wp2_with fail
      refine (works6_h _).mono ?_; rintro e w1 ⟨rfl, hb1⟩
      replace hb1 := Lib.hid hb1
      go_wp2_with fail
      go_ret
      exact ⟨rfl, hb1.out⟩
    · have h1' : ¬ (3000 : Int) < (n : Int) := by omega
      have h2' : (8192 : Int) < (m : Int) := by omega
      clear hbig
      go_enter Try.func9, Try.ntmps9
      go_wp2_with fail
      refine (works6_h _).mono ?_; rintro e w1 ⟨rfl, hb1⟩
      replace hb1 := Lib.hid hb1
      go_wp2_with fail
      go_ret
      exact ⟨rfl, hb1.out⟩
  have hn1 : n ≤ 3000 := by omega
  have hm1 : m ≤ 8192 := by omega
  have h1' : ¬ (3000 : Int) < (n : Int) := by omega
  have h2' : ¬ (8192 : Int) < (m : Int) := by omega
  have hlen := Lib.hid hU.out.len
  clear hbig
  have hk1 : 1 ≤ 1 + by_ % 7 := by omega
  have hk2 : 1 + by_ % 7 ≤ 7 := by omega
  go_enter Try.func9, Try.ntmps9
  go_upto_region 4 with fail
  generalize 1 + by_ % 7 = k at *
  have hst : Hid (Two W (.slice none 0 0) ((a.take 0).map cutM) (.slice none 0 0) (mulA k ((a.take 0).map cutM)) W) := Lib.hid (Two.start W)
  go_wp2_with fail
  go_loopw [8, 9, 10] (fun v v' i wr => ∃ j : Nat, j ≤ m ∧ i = .int .i64 j ∧ Hid (Two W v ((a.take j).map cutM) v' (mulA k ((a.take j).map cutM)) wr)) (fun _ _ i _ => m - (intOf i).toNat)
  case atStart => exact ⟨0, Nat.zero_le _, rfl, hst⟩
  case round =>
    clear hst
    obtain ⟨j, hj, rfl, hT⟩ := hrel
    have i1 : (0 : Int) ≤ (j : Int) := by omega
    by_cases hlt : j < m
    · have i2 : (j : Int) < (m : Int) := by omega
      obtain ⟨b, x, rfl, hbb, hx, hcu0⟩ := i32_cell hA.out hlt
      have hcu := (hT.out.hb.cell (p := b.add j) (by rw [add_block]; exact hbb)).trans hcu0
      have hnx := take_one k hx
      have hxb := cutM_bd x
      have hmw := mul_wrap (x := cutM x) hk1 hk2 (by omega)
      have hl1 : ((a.take j).map cutM).length ≤ 8192 := by rw [List.length_map]; have : (a.take j).length ≤ j := List.length_take_le _ _; omega
      have hl2 : (mulA k ((a.take j).map cutM)).length ≤ 8192 := by unfold mulA; rw [List.length_map]; exact hl1
      have hI32 := ha.out x (List.mem_of_getElem? hx)
      have hxm : x.tmod 1048576 = cutM x := rfl
      obtain ⟨hx0, hx1⟩ := hI32
      generalize (a.take j).map cutM = o1 at *
      generalize mulA k o1 = o2 at *
      replace hnx := Lib.hid hnx
      replace hx := Lib.hid hx
      clear hcu0
      go_upto_region 9 with fail
      obtain ⟨y, hy⟩ : ∃ y, cutM x = y := ⟨_, rfl⟩
      rw [hy] at hxb hmw ⊢
      have hnx2 := hnx.out
      rw [hy] at hnx2
      replace hnx2 := Lib.hid hnx2
      replace hy := Lib.hid hy
      obtain ⟨w1', w2', w3', w4'⟩ := hmw
      clear hxm hcu hnx
      have hlit := Lib.hid (Holds.lit (f := intE) wr [y] 2)
      have hT1 := hT.out.alloc (.cells ([y].flatMap intE).toArray 2)
      have hown := Lib.hid hT1.r1
      have hbase := Lib.hid (hT.out.base (.cells ([y].flatMap intE).toArray 2))
      replace hT1 := Lib.hid hT1
      clear hT
      go_upto_region 10 with (at_builtin; refine append_row rfl (.tmp 53) (.tmp 55) 23 2 rfl _ 8 Try.underlying23 infoI6 rfl (by decide) (by decide) intE_len intE_one W.heap.size u8 o1.length o1 rfl hown.out _ _ 1 1 [_] rfl (fun h => by cases h) (Lib.hid rfl) hlit.out (by omega) hbase.out ?_; intro v1 w1 h3 h4 h5; have hT2 := Lib.hid (hT1.out.step h3 h4 h5).swap; clear h3 h4 h5)
      clear hlit hown hbase hT1
      have hlit := Lib.hid (Holds.lit (f := intE) w1 [k * y] 2)
      have hT3 := hT2.out.alloc (.cells ([k * y].flatMap intE).toArray 2)
      have hown := Lib.hid hT3.r1
      have hbase := Lib.hid (hT2.out.base (.cells ([k * y].flatMap intE).toArray 2))
      replace hT3 := Lib.hid hT3
      clear hT2
      go_wp2_with (at_builtin; refine append_row rfl (.tmp 57) (.tmp 61) 23 2 rfl _ 8 Try.underlying23 infoI6 rfl (by decide) (by decide) intE_len intE_one W.heap.size u9 o2.length o2 rfl hown.out _ _ 1 1 [_] rfl (fun h => by cases h) (Lib.hid rfl) hlit.out (by omega) hbase.out ?_; intro v2 w2 h3 h4 h5; have hT4 := Lib.hid (hT3.out.step h3 h4 h5).swap; rw [← hnx2.out.1, ← hnx2.out.2] at hT4; clear h3 h4 h5)
      go_roundw
      case rel => exact ⟨j + 1, by omega, by go_num, hT4⟩
      case measure => simp [intOf]; omega
    · have hlt' : ¬ (j : Int) < (m : Int) := by omega
      have et : a.take j = a := List.take_of_length_le (by rw [← hA.out.len]; omega)
      rw [et] at hT
      obtain ⟨F1, d1, rfl, hF1, -⟩ := Sl.own hT.out.r1 intE_len (by omega)
      obtain ⟨F2, d2, rfl, hF2, -⟩ := Sl.own hT.out.r2 intE_len (by omega)
      have hb0 := Lib.hid hT.out.hb
      have near1 := near_one a
      have near2 := near_many hk1 hk2 a
      have la : a.length ≤ 8192 := by rw [← hA.out.len]; exact hm1
      have lA1 : (a.map cutM).length = a.length := by simp
      have lA2 : (mulA k (a.map cutM)).length = a.length := by unfold mulA; simp
      have hul : u.length ≤ 3000 := by rw [← hlen.out]; exact hn1
      obtain ⟨hw1, hw2, hw3⟩ := wrds_mul (k := k) near1 near2 hul ps
      have hwm := wide_mul k (a.map cutM) u
      have wn1 := wide_near near1 u
      have wn2 := wide_near near2 u
      have cn1 := near_cut (x := wideS (a.map cutM) u) (by omega)
      have cn2 := near_cut (x := wideS (mulA k (a.map cutM)) u) (by omega)
      have tot1 := wrds_tot near1 hul hps.out
      have tot2 := wrds_tot near2 hul hps.out
      rw [hw1] at tot2
      obtain ⟨rs, hrs⟩ := rwhl_exists (wrds (a.map cutM) u ps)
      have hrs2 := rwhl_map k hrs
      have hls := lst_mul (k := k) (by omega) (wrds (a.map cutM) u ps)
      obtain ⟨hg1, hg2, hg3⟩ := grt_mul (k := k) (by omega) tot1 tot2 rs
      have hi1 := near_i64 near1
      have hi2 := near_i64 near2
      rw [lA1] at hF1
      rw [lA2] at hF2
      rw [lA1, lA2]
      generalize a.map cutM = A1 at *
      generalize mulA k A1 = A2 at *
      replace hi1 := Lib.hid hi1
      replace hi2 := Lib.hid hi2
      replace hF1 := Lib.hid hF1
      replace hF2 := Lib.hid hF2
      have ok1 := wrds_ok (A := A1) hul hps.out
      have ok2 := wrds_ok (A := A2) hul hps.out
      rw [hw1] at ok2
      have lb := lst_bd tot1
      have gb := grt_bd (wrds A1 u ps) rs
      have hx1 := mul_wrap (x := wideS A1 u) hk1 hk2 (by omega)
      have hx2 := mul_wrap (x := lst (wrds A1 u ps)) hk1 hk2 (by omega)
      have hx3 := mul_wrap (x := grt (wrds A1 u ps) rs) hk1 hk2 (by omega)
      have kw1 := wide_h U n c u F1 a.length d1 A1 wr (Lib.hid (hU.out.below hb0.out)) hu hF1 hi1 (by omega)
      have kw2 := fun (w1 : World) (hb : Below wr.heap.size wr w1) => wide_h U n c u F2 a.length d2 A2 w1 (Lib.hid (hU.out.below (hb0.out.trans (hb.mono hb0.out.size)))) hu (Lib.hid (hF2.out.below hb)) hi2 (by omega)
      have kd1 := fun (w1 : World) (hb : Below wr.heap.size wr w1) => words_h U n c u F1 a.length d1 A1 w1 (Lib.hid (hU.out.below (hb0.out.trans (hb.mono hb0.out.size)))) hu (Lib.hid (hF1.out.below hb)) hi1 (by omega) ps hps
      have kd2 := fun (w1 : World) (hb : Below wr.heap.size wr w1) => words_h U n c u F2 a.length d2 A2 w1 (Lib.hid (hU.out.below (hb0.out.trans (hb.mono hb0.out.size)))) hu (Lib.hid (hF2.out.below hb)) hi2 (by omega) ps hps
      have hqn : (wrds A1 u ps).length ≤ 3000 := by
        obtain ⟨z, _, h1, h2⟩ := hps.out
        have := chn_len ps 0 z h1
        have := h2.1
        rw [wrds_len]
        omega
      rw [cn1.1, cn1.2] at kw1
      rw [cn2.1, cn2.2, hwm] at kw2
      rw [hw2] at kd1
      rw [hw1, hw3] at kd2
      clear hw1 hw2 hw3 hwm wn1 wn2 cn1 cn2 near1 near2 hT lA1 lA2 hul hlt
      obtain ⟨L, hL⟩ : ∃ L, wrds A1 u ps = L := ⟨_, rfl⟩
      rw [hL] at kd1 kd2 hrs hrs2 hls hg1 hg2 hg3 tot1 tot2 ok1 ok2 hx2 hx3 hqn lb gb
      unfold MadeWrds at kd1 kd2
      rw [List.length_map] at kd2
      have hSL : (L.map (mulW k)).length = L.length := List.length_map ..
      obtain ⟨q, hq⟩ : ∃ q, L.length = q := ⟨_, rfl⟩
      rw [hq] at kd1 kd2 hqn hSL
      generalize wideS A1 u = X1 at *
      have ke1 := fun (R : Option Addr) (c : Nat) (w1 : World) (h : Sl wrdE w1 R q c L) => extent_h R q c L w1 (Lib.hid h) (Lib.hid ok1) (by omega) rs (Lib.hid hrs)
      have ke2 := fun (R : Option Addr) (c : Nat) (w1 : World) (h : Sl wrdE w1 R q c (L.map (mulW k))) => extent_h R q c (L.map (mulW k)) w1 (Lib.hid h) (Lib.hid ok2) (by omega) rs (Lib.hid hrs2)
      rw [hg2] at ke1
      rw [hls, hg1, hg3] at ke2
      have hxw : ∀ x ∈ L, (wrap64 (x.w * k) = k * x.w ∧ IntKind.i64.wrap (x.w * k) = k * x.w) ∧ (wrap64 (x.g * k) = k * x.g ∧ IntKind.i64.wrap (x.g * k) = k * x.g) := fun x hx => by
        have ht := tot_mem hx
        have p1 := mul_wrap (x := x.w) hk1 hk2 (by omega)
        have p2 := mul_wrap (x := x.g) hk1 hk2 (by omega)
        exact ⟨p1.2.2, p2.2.2⟩
      generalize lst L = LS at *
      generalize grt L rs = GR at *
      replace kw1 := Lib.hid kw1
      replace kw2 := Lib.hid kw2
      replace kd1 := Lib.hid kd1
      replace kd2 := Lib.hid kd2
      replace ke1 := Lib.hid ke1
      replace ke2 := Lib.hid ke2
      replace hxw := Lib.hid hxw
      replace hx1 := Lib.hid hx1
      replace hx2 := Lib.hid hx2
      replace hx3 := Lib.hid hx3
      replace hq := Lib.hid hq
      replace hSL := Lib.hid hSL
      replace hL := Lib.hid hL
      clear hrs hrs2 hls hg1 hg2 hg3 tot1 tot2 ok1 ok2 lb gb et hF1 hF2 hi1 hi2 la
      go_wp2_with fail
      refine kw1.out.mono ?_; rintro e w1 ⟨rfl, hb1⟩
      have k1 := Lib.hid (kw2.out w1 hb1)
      replace hb1 := Lib.hid hb1
      clear kw1 kw2
      go_wp2_with fail
      refine k1.out.mono ?_; rintro e w2 ⟨rfl, hb2⟩
      replace hb2 := Lib.hid (hb1.out.trans (hb2.mono hb1.out.size))
      have k2 := Lib.hid (kd1.out w2 hb2.out)
      clear k1 kd1 hb1
      go_wp2_with fail
      refine k2.out.mono ?_; rintro e w3 ⟨E1, c1, rfl, hE1, hb3, -⟩
      replace hE1 := Lib.hid hE1
      replace hb3 := Lib.hid (hb2.out.trans (hb3.mono hb2.out.size))
      have k3 := Lib.hid (kd2.out w3 hb3.out)
      clear k2 kd2 hb2
      go_wp2_with fail
      refine k3.out.mono ?_; rintro e w4 ⟨E2, c2, rfl, hE2, hb4, -⟩
      have hE14 := Lib.hid (hE1.out.below hb4)
      replace hE2 := Lib.hid hE2
      replace hb4 := Lib.hid (hb0.out.trans ((hb3.out.trans (hb4.mono hb3.out.size)).mono hb0.out.size))
      clear k3 hb3 hE1 hb0
      obtain ⟨y1, y2, y3, y4⟩ := hx1.out
      go_wp2_with fail
      go_loopw [20] (fun i wx => ∃ j : Nat, j ≤ q ∧ i = .int .i64 j ∧ Hid (Below w4.heap.size w4 wx)) (fun i _ => q - (intOf i).toNat)
      case atStart => exact ⟨0, Nat.zero_le _, rfl, Lib.hid (Below.refl _ _)⟩
      case round =>
        clear y1 y2 y3 y4
        obtain ⟨i, hi, rfl, hb5⟩ := hrel
        by_cases hit : i < q
        · have i1 : (0 : Int) ≤ (i : Int) := by omega
          have i2 : (i : Int) < (q : Int) := by omega
          obtain ⟨x, hx⟩ : ∃ x, L[i]? = some x := ⟨L[i]'(by have := hq.out; omega), List.getElem?_eq_getElem _⟩
          have hxm : (L.map (mulW k))[i]? = some (mulW k x) := by rw [List.getElem?_map, hx]; rfl
          obtain ⟨⟨p1, p2⟩, p3, p4⟩ := hxw.out x (List.mem_of_getElem? hx)
          obtain ⟨g, rfl, -, c0, c1', c2', c3, c4⟩ := (hE14.out.below hb5.out).at_.wrd hx
          have hbx : Box (wr.alloc (.cells #[.int .i64 x.s, .int .i64 x.t, .int .i64 x.w, .int .i64 x.g, .int .i64 x.e] 58)) wr.heap.size (wrdE x) := Box.new wr (wrdE x) _
          have hbl : Below wr.heap.size wr (wr.alloc (.cells #[.int .i64 x.s, .int .i64 x.t, .int .i64 x.w, .int .i64 x.g, .int .i64 x.e] 58)) := (Below.refl _ _).alloc (Nat.le_refl _) _
          have hE25 := Lib.hid (hE2.out.below hb5.out)
          replace hx := Lib.hid hx
          replace hxm := Lib.hid hxm
          go_upto_region 21 with fail
          generalize hV0 : World.alloc wr _ = V0 at *
          obtain ⟨gw, hgw⟩ : ∃ gw, wr.heap.size = gw := ⟨_, rfl⟩
          rw [hgw] at hbx ⊢
          have b2 := hbx.cell 2 _ rfl
          have b3 := hbx.cell 3 _ rfl
          have f2 := hbx.free 2 (by simp [wrdE])
          have f3 := hbx.free 3 (by simp [wrdE])
          have hbx2 : Hid (Box ((V0.setCell ⟨gw, 2, none⟩ (.int .i64 (k * x.w))).setCell ⟨gw, 3, none⟩ (.int .i64 (k * x.g))) gw (wrdE (mulW k x))) :=
            Lib.hid ((hbx.set 2 (.int .i64 (k * x.w)) (by simp [wrdE])).set 3 (.int .i64 (k * x.g)) (by simp [wrdE]))
          have hbl2 : Hid (Below wr.heap.size wr ((V0.setCell ⟨gw, 2, none⟩ (.int .i64 (k * x.w))).setCell ⟨gw, 3, none⟩ (.int .i64 (k * x.g)))) :=
            Lib.hid ((hbl.setCell (p := ⟨gw, 2, none⟩) (by show _ ≤ gw; omega) _).setCell (p := ⟨gw, 3, none⟩) (by show _ ≤ gw; omega) _)
          replace hgw := Lib.hid hgw
          clear hbx hbl hV0 c0 c1' c2' c3 c4
          go_upto_region 23 with fail
          generalize hV1 : World.setCell _ _ _ = V1 at *
          clear hV1 b2 b3 f2 f3 p1 p2 p3 p4
          obtain ⟨g3, rfl, -, d0, d1', d2', d3, d4⟩ := (hE25.out.below hbl2.out).at_.wrd hxm.out
          have e0 := hbx2.out.cell 0 _ rfl
          have e1 := hbx2.out.cell 1 _ rfl
          have e2 := hbx2.out.cell 2 _ rfl
          have e3 := hbx2.out.cell 3 _ rfl
          have e4 := hbx2.out.cell 4 _ rfl
          have hqq := wrd_eq (mulW k x)
          simp only [mulW] at d0 d1' d2' d3 d4 e0 e1 e2 e3 e4 hqq
          go_quiet (fail)
          have hb12 := Lib.hid (hb5.out.trans ((bl_drewN hbl2.out nq).mono hb5.out.size))
          clear d0 d1' d2' d3 d4 e0 e1 e2 e3 e4 hqq hbl2 hbx2 hE25 hx hxm
          go_wp2_with fail
          go_roundw
          case rel => exact ⟨i + 1, by omega, by go_num, hb12⟩
          case measure => simp [intOf]; omega
        · have i2 : ¬ (i : Int) < (q : Int) := by omega
          have k5 := ke1.out E1 c1 wr (hE14.out.below hb5.out)
          have k6 := fun (w1 : World) (hb : Below wr.heap.size wr w1) => ke2.out E2 c2 w1 ((hE2.out.below hb5.out).below hb)
          have hb6 := Lib.hid (hb4.out.trans (hb5.out.mono hb4.out.size))
          replace k5 := Lib.hid k5
          replace k6 := Lib.hid k6
          obtain ⟨z1, z2, z3, z4⟩ := hx2.out
          obtain ⟨z5, z6, z7, z8⟩ := hx3.out
          clear hE14 hE2 hb5 ke1 ke2
          go_wp2_with fail
          refine k5.out.mono ?_; rintro e w5 ⟨rfl, hb7⟩
          have k7 := Lib.hid (k6.out w5 hb7)
          replace hb7 := Lib.hid (hb6.out.trans (hb7.mono hb6.out.size))
          clear k5 k6 hb6
          go_wp2_with fail
          refine k7.out.mono ?_; rintro e w6 ⟨rfl, hb8⟩
          replace hb8 := Lib.hid (hb7.out.trans (hb8.mono hb7.out.size))
          clear k7 hb7
          go_wp2_with fail
          refine (works6_h _).mono ?_; rintro e w7 ⟨rfl, hb9⟩
          replace hb9 := Lib.hid (hb8.out.trans (hb9.mono hb8.out.size))
          go_wp2_with fail
          go_ret
          exact ⟨rfl, hb9.out⟩

set_option maxRecDepth 100000 in
theorem lifted (os : Os) (started : os.Started) (H : Type) (enc : TypeId × Value → H) :
    ReturnsInHanded {} Try.checked os 9 .any (Rows.textScaledSpec.pre6 enc Try.prog Try.f9 Rows.textScaledRow.domain false) (Rows.textScaledSpec.post enc Try.prog Try.f9 false true false false) := by
  refine returnsInHanded_of_change (C := Try.checked) own started (by kernel_rfl) Try.func9
    (ChangeSpec.witness6 (enc := enc) (C := Try.checked) false ⟨#[], #[.slice none 0 0, .slice none 0 0, .int .u8 0], []⟩ 20 (by kernel_rfl) (by kernel_rfl) (by kernel_rfl) (by kernel_rfl)) ?_
  intro W base args ds gs before hval0 hW hcnd _
  have hval : ∀ (j : Nat) t v, Try.f9.params[j]? = some t → args[j]? = some v → Value.okWide Try.prog W .any base t v := hval0
  have hW' := hW
  obtain ⟨p, q, hA0, hV, rfl, hfz, hnd⟩ := hW
  have hA : DataW.TrodAll enc Try.prog W 0 (fun _ => true) true Try.f9.params.toList args.toList ds p := hA0
  rw [Try.params9] at hA hval
  obtain ⟨v0, vs0, d0, ds0, p0, q0, hargs, rfl, rfl, h0, r0⟩ := trodAll_cons hA
  obtain ⟨v1, vs1, d1, ds1, p1, q1, rfl, rfl, rfl, h1, r1⟩ := trodAll_cons r0
  obtain ⟨v2, vs2, d2, ds2, p2, q2, rfl, rfl, rfl, h2, r2⟩ := trodAll_cons r1
  obtain ⟨rfl, rfl, rfl⟩ := trodAll_nil r2
  obtain rfl : args = #[v0, v1, v2] := by cases args; simp_all
  obtain ⟨rfl, rfl⟩ := trodVars_none hV
  obtain ⟨A0, n0, c0, l0, rfl, m0, s0, o0⟩ := view_u16s (hval 0 36 v0 rfl rfl) h0
  obtain ⟨A1, n1, c1, l1, rfl, m1, s1, o1⟩ := view_i32s (hval 1 62 v1 rfl rfl) h1
  obtain ⟨a2, rfl, -, -, w2⟩ := open_int Try.underlying5 (hval 2 5 v2 rfl rfl) h2
  refine (walk W A0 n0 c0 l0 m0 s0 o0 A1 n1 c1 l1 m1 s1 o1 a2 w2).mono fun e W' ⟨he, hg⟩ => ?_
  subst he
  exact ⟨_, rfl, law_post laidOut (by kernel_rfl) rfl Try.underlying4 rfl hW' rfl rfl rfl hg⟩

theorem over : Rows.textScaledRow.holds Try.pinned (OpenSpec.ofChange Rows.textScaledSpec) :=
  OpenClaim.holds_of_wide 9 Try.f9 rfl rfl rfl rfl rfl rfl rfl ⟨rfl, rfl, rfl, rfl, rfl⟩ rfl rfl rfl rfl rfl (by kernel_rfl) Try.func9 (by kernel_rfl)
    (of_decide_eq_true (by kernel_rfl)) (by unfold Func.isWrapper; first | (rw [if_pos (by decide +kernel)]; kernel_rfl) | (rw [if_neg (by decide +kernel)]; exact ⟨rfl, rfl⟩))
    (fun os started H enc _ => lifted os started H enc)

/-- The statement. -/
theorem proved : Rows.TextScaledSaid := over
#print axioms proved
end Go.Proofs.Ytnmfcbmdopmglaa.lawTextScaled
