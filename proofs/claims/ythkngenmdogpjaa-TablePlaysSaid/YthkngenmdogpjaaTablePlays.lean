/-
  Of a table of any size, by any calls, each answer, how many are left and all values are the document's: for every input, no conditions.
-/
import Derived.Test.YthkngenmdogpjaaWorks3
import Derived.Test.YthkngenmdogpjaaPlay2
import Derived.Test.YthkngenmdogpjaaLawCore
import Derived.Deep.DeepCutAuto
import Derived.Deep.RegionHeld3
import Derived.ProofKit
import Derived.OpenShut
import Derived.BigGuard
import Derived.Deep.QuietTactic
import Derived.BigQuiet
namespace Go.Proofs.Ythkngenmdogpjaa.lawTablePlays
open Go.ChangeShapes Go.WideShapes Go.ChangeAt Go.RowKit Go.Proofs.Ythkngenmdogpjaa
set_option linter.unusedVariables false

theorem own : ownKnob Try.prog.godebug = none := by kernel_rfl

set_option maxRecDepth 200000 in
theorem vast_any (w : World) (a : Int) (A : Option Addr) (n c : Nat) (hm : n ≤ maxLen) (V : Bool) (hV : V = (decide (300 < n) || (decide (2000 < a) && decide (a ≤ 65536)))) :
    Calls Try.prog 7 #[.int .i64 a, .slice A n c] w fun e w' => e = .returned (.bool V) ∧ w = w' := by
  unfold maxLen at hm
  have hc : (300 < n ∧ V = true) ∨ (decide ((300 : Int) < (n : Int)) = false ∧ 2000 < a ∧ a ≤ 65536 ∧ V = true) ∨ (decide ((300 : Int) < (n : Int)) = false ∧ decide (2000 < a) = false ∧ V = false) ∨ (decide ((300 : Int) < (n : Int)) = false ∧ 2000 < a ∧ decide (a ≤ 65536) = false ∧ V = false) := by
    by_cases h1 : 300 < n
    · exact .inl ⟨h1, by simp [hV, h1]⟩
    · by_cases h2 : 2000 < a
      · by_cases h3 : a ≤ 65536
        · exact .inr (.inl ⟨decide_eq_false (by omega), h2, h3, by simp [hV, h2, h3]⟩)
        · exact .inr (.inr (.inr ⟨decide_eq_false (by omega), h2, by simp [h3], by simp [hV, h1, h3]⟩))
      · exact .inr (.inr (.inl ⟨decide_eq_false (by omega), by simp [h2], by simp [hV, h1, h2]⟩))
  clear hV
  rcases hc with ⟨h1, rfl⟩ | ⟨h1, h2, h3, rfl⟩ | ⟨h1, h2, rfl⟩ | ⟨h1, h2, h3, rfl⟩
  all_goals
    go_enter Try.func7, Try.ntmps7
    go_wp2_with fail
    go_ret
    exact ⟨rfl, rfl⟩

set_option maxRecDepth 200000 in
theorem great_ (W : World) (a : Int) (A : Option Addr) (n c : Nat) (hm : n ≤ maxLen) (hV : 300 < n ∨ (2000 < a ∧ a ≤ 65536)) :
    Calls Try.prog 3 #[.int .i64 a, .slice A n c] W fun e w' => e = .returned (.bool true) ∧ Below W.heap.size W w' := by
  have kv := vast_any W a A n c hm true (by
    rcases hV with h | ⟨h1, h2⟩
    · simp [h]
    · simp [h1, h2])
  clear hV
  go_enter Try.func3, Try.ntmps3
  go_wp2_with (go_at_call 7; refine kv.mono ?_; rintro e w' ⟨rfl, rfl⟩)
  refine (works3_any _).mono ?_; rintro e w' ⟨rfl, hq⟩
  go_wp2_with fail
  go_ret
  exact ⟨rfl, hq⟩

set_option maxRecDepth 200000 in
theorem out_ (W : World) (a : Int) (A : Option Addr) (n c : Nat) (hm : n ≤ maxLen) (hn : n ≤ 300) (ha : a < 0 ∨ 65536 < a) :
    Calls Try.prog 3 #[.int .i64 a, .slice A n c] W fun e w' => e = .returned (.bool true) ∧ Below W.heap.size W w' := by
  have kv := vast_any W a A n c hm false (by
    have h1 : ¬ 300 < n := by omega
    have h2 : ¬ (2000 < a ∧ a ≤ 65536) := by omega
    simp only [h1, decide_false, Bool.false_or]
    rcases ha with h | h
    · simp [show ¬ 2000 < a by omega]
    · simp [show ¬ a ≤ 65536 by omega])
  have k1 := newP_no a W ha
  have k2 := rNew_no a W ha
  clear ha
  go_enter Try.func3, Try.ntmps3
  go_wp2_with (first | (go_at_call 7; refine kv.mono ?_; rintro e w' ⟨rfl, rfl⟩) | (go_at_call 9; refine k1.mono ?_; rintro e w' ⟨rfl, rfl⟩) | (go_at_call 10; refine k2.mono ?_; rintro e w' ⟨rfl, rfl⟩))
  refine (works3_any _).mono ?_; rintro e w' ⟨rfl, hq⟩
  go_wp2_with fail
  go_ret
  exact ⟨rfl, hq⟩

set_option maxRecDepth 200000 in
set_option maxHeartbeats 6400000 in
theorem small_ (W : World) (n : Nat) (A : Option Addr) (m c : Nat) (l : List TOp) (hn : n ≤ 2000) (h : Hid (Sl opE W A m c l)) (hm : m ≤ 300) :
    Calls Try.prog 3 #[.int .i64 n, .slice A m c] W fun e w' => e = .returned (.bool true) ∧ Below W.heap.size W w' := by
  have kv := vast_any W n A m c (by unfold maxLen; omega) false (by
    have h1 : ¬ 300 < m := by omega
    have h2 : ¬ (2000 : Int) < (n : Int) := by omega
    simp only [h1, h2, decide_false, Bool.false_or, Bool.false_and])
  go_enter Try.func3, Try.ntmps3
  go_wp2_with (go_at_call 7; refine kv.mono ?_; rintro e w' ⟨rfl, rfl⟩)
  refine (newP_h n (by omega) W).mono ?_; rintro e w1 ⟨tb, cb, vb, rfl, hN⟩
  have hN := Lib.hid hN
  clear kv
  go_wp2_with fail
  refine (rNew_h n (by omega) w1).mono ?_; rintro e w2 ⟨rb, rc, rfl, hR, hb, h1, h2⟩
  have s0 : Hid (∃ T, PS W w2 tb cb vb rb rc T T ∧ T.length = n) := Lib.hid ⟨_, PS.start hN.out hR hb h1 h2, by simp⟩
  clear hN hR hb h1 h2
  go_wp2_with fail
  go_loopw [9] (fun i wr => ∃ j : Nat, j ≤ m ∧ i = .int .i64 j ∧ Hid (∃ T, PS W wr tb cb vb rb rc T T ∧ T.length = n)) (fun i _ => m - (intOf i).toNat)
  case atStart => exact ⟨0, Nat.zero_le _, rfl, s0⟩
  case round =>
    clear s0
    obtain ⟨j, hj, rfl, hs⟩ := hrel
    obtain ⟨T, hps, hT⟩ := hs.out
    have hps := Lib.hid hps
    have hT := Lib.hid hT
    clear hs
    by_cases hlt : j < m
    · obtain ⟨x, hx⟩ : ∃ x, l[j]? = some x := ⟨_, List.getElem?_eq_getElem (by rw [← h.out.len]; exact hlt)⟩
      obtain ⟨a, ea, _, _⟩ := (h.out.at_).op hx
      subst ea
      have i1 : (0 : Int) ≤ (j : Int) := by omega
      have i2 : (j : Int) < (m : Int) := by omega
      have hcell := fun w hb => op_cells (w := w) h.out hb hx
      have hx := Lib.hid hx
      go_upto_region 12 with fail
      go_cut [85] (fun s wx => s = .bool false ∧ Hid (PS W wx tb cb vb rb rc (if x.put then putL T x.i x.v else T) (if x.put then putL T x.i x.v else T)))
      case first =>
        rcases x with ⟨pt, oi, ov⟩
        obtain ⟨a0, a1, a2, a3⟩ := hcell wr hps.out.bl
        cases pt with
        | false =>
          simp only at a0 a1 a2 a3
          go_quiet (fail)
          have hps : Hid (PS W (wr.drewN nq) tb cb vb rb rc T T) := Lib.hid (hps.out.below (bl_drewN (Below.refl _ _) nq))
          go_wp2_with fail
          go_meet
          exact ⟨rfl, hps⟩
        | true =>
          have hd : Hid (PS W wr.drew tb cb vb rb rc T T) := Lib.hid (hps.out.below (Below.refl _ _).drew)
          simp only at a0 a1 a2 a3
          have a0 := hcell wr.drew hd.out.bl
          go_region_held3 (fun w' => w'.cell? (a.add (j * 4)) = some (.bool true) ∧ w'.cell? ⟨(a.add (j * 4)).block, (a.add (j * 4)).off + 1, none⟩ = some (.int .i64 oi) ∧
              w'.cell? ⟨(a.add (j * 4)).block, (a.add (j * 4)).off + 2, none⟩ = some (.int .i64 ov.a) ∧ w'.cell? ⟨(a.add (j * 4)).block, (a.add (j * 4)).off + 2 + 1, none⟩ = some (.string ov.b))
            (first | exact a0 | (with_reducible exact hcell _ hfin.out.bl) | (with_reducible exact hcell _ hs1.out.bl) | (with_reducible exact hcell _ hr1.out.bl))
            (first | (go_at_call 11; refine (putP_any tb cb vb T oi ov _ (Lib.hid hr1.out.tab)).mono ?_; rintro e w4 ⟨rfl, hT4, hb4⟩; have hfin := Lib.hid (hr1.out.put hT4 hb4); clear hT4 hb4)
                   | (go_at_call 11; refine (putP_any tb cb vb T oi ov _ (Lib.hid hd.out.tab)).mono ?_; rintro e w3 ⟨rfl, hT3, hb3⟩; have hs1 := Lib.hid (hd.out.put hT3 hb3); clear hT3 hb3)
                   | (go_at_call 12; refine (rPut_h rb rc T oi ov _ (Lib.hid hs1.out.ref)).mono ?_; rintro e w4 ⟨rfl, hT4, hb4⟩; have hfin := Lib.hid (hs1.out.rput hT4 hb4); clear hT4 hb4)
                   | (go_at_call 12; refine (rPut_h rb rc T oi ov _ (Lib.hid hd.out.ref)).mono ?_; rintro e w3 ⟨rfl, hT3, hb3⟩; have hr1 := Lib.hid (hd.out.rput hT3 hb3); clear hT3 hb3))
          all_goals
            go_wp2_with fail
            go_meet
            exact ⟨rfl, hfin⟩
      case rest =>
        obtain ⟨rfl, hps⟩ := hcut
        have hT2 : Hid ((if x.put then putL T x.i x.v else T).length = n) := Lib.hid (by split; rw [putL_len]; exact hT.out; exact hT.out)
        generalize (if x.put then putL T x.i x.v else T) = T2 at *
        clear hT
        obtain ⟨a0, a1, a2, a3⟩ := hcell _ hps.out.bl
        clear a0 a2 a3
        have kg := getP_h tb cb vb T2 x.i wc (Lib.hid hps.out.tab)
        have kr := fun w h => rGet_h rb rc T2 x.i w h
        generalize ((slot T2 x.i).join.getD pair0).a = ya at kg kr
        generalize ((slot T2 x.i).join.getD pair0).b = yb at kg kr
        generalize getE (slot T2 x.i) = ge at kg kr
        go_wp2_with fail
        refine kg.mono ?_; rintro e w3 ⟨rfl, hb⟩
        have hps : Hid (PS W (w3.alloc (.cells #[.int .i64 ya, .string yb] 30)) tb cb vb rb rc T2 T2) := Lib.hid ((hps.out.below hb).below ((Below.refl _ _).alloc (Nat.le_refl _) _))
        have hX := Lib.hid (Box.new w3 [.int .i64 ya, .string yb] 30)
        clear kg hb a1
        obtain ⟨a0, a1, a2, a3⟩ := hcell _ hps.out.bl
        clear a0 a2 a3
        go_wp2_with fail
        refine (kr _ (Lib.hid hps.out.ref)).mono ?_; rintro e w4 ⟨rfl, hb⟩
        have hps := Lib.hid (hps.out.below hb)
        have hX := Lib.hid (hX.out.below hb)
        generalize w3.heap.size = g3 at *
        clear kr hb a1
        go_wp2_with fail
        generalize hV3 : World.alloc w4 _ = V
        obtain ⟨hps, hX, hY⟩ : Hid (PS W V tb cb vb rb rc T2 T2) ∧ Hid (Box V g3 [.int .i64 ya, .string yb]) ∧ Hid (Box V w4.heap.size [.int .i64 ya, .string yb]) := by
          subst hV3
          exact ⟨Lib.hid (hps.out.below ((Below.refl _ _).alloc (Nat.le_refl _) _)), Lib.hid (hX.out.alloc _), Lib.hid (Box.new w4 [_, _] _)⟩
        clear hV3
        have hT3 : Hid (T2.length ≤ 65536) := Lib.hid (by rw [hT2.out]; omega)
        have m1 : ∀ y : Later V, Hid (Calls Try.prog 15 #[.pointer (some ⟨tb, 0, none⟩)] y.w fun e w' => e = .returned (.int .i64 (leftN T2)) ∧ y.w = w') := fun y => Lib.hid (leftP_h tb cb vb T2 y.w (Lib.hid (hps.out.tab.below y.h)) hT3.out)
        have m2 : ∀ y : Later V, Hid (Calls Try.prog 16 #[.pointer (some ⟨rb, 0, none⟩)] y.w fun e w' => e = .returned (.int .i64 (leftN T2)) ∧ y.w = w') := fun y => Lib.hid (rLeft_h rb rc T2 y.w (Lib.hid (hps.out.ref.below y.h)) hT3.out)
        have m3 : ∀ y : Later V, Hid (Calls Try.prog 17 #[.pointer (some ⟨tb, 0, none⟩)] y.w fun e w' => e = .returned (.int .i64 n) ∧ y.w = w') := fun y => Lib.hid (by have hh := sizeP_h tb cb vb T2 y.w (Lib.hid (hps.out.tab.below y.h)); rw [hT2.out] at hh; exact hh)
        have q0 : ∀ y : Later V, y.w.cell? ⟨g3, 0, none⟩ = some (.int .i64 ya) := Later.cell hX.out.lt (hX.out.cell 0 _ rfl)
        have q1 : ∀ y : Later V, y.w.cell? ⟨g3, 1, none⟩ = some (.string yb) := Later.cell hX.out.lt (hX.out.cell 1 _ rfl)
        have p0 : ∀ y : Later V, y.w.cell? ⟨w4.heap.size, 0, none⟩ = some (.int .i64 ya) := Later.cell hY.out.lt (hY.out.cell 0 _ rfl)
        have p1 : ∀ y : Later V, y.w.cell? ⟨w4.heap.size, 1, none⟩ = some (.string yb) := Later.cell hY.out.lt (hY.out.cell 1 _ rfl)
        have r0 : ∀ y : Later V, y.w.cell? ⟨rb, 0, none⟩ = some (.slice (some ⟨rc, 0, none⟩) n n) := Later.cell hps.out.ref.head.lt (by have hh := hps.out.ref.head.cell 0 _ rfl; rw [hT2.out] at hh; exact hh)
        have heq := fun w => pair_eq ya yb w
        generalize leftN T2 = L at m1 m2
        refine wp_region_later V (by kernel_rfl) (by kernel_rfl) (Below.refl _ _) ?_
        repeat (quiet_step ((first | (go_at_call 15; (with_reducible exact Later.callSame _ (m1 _).out)) | (go_at_call 16; (with_reducible exact Later.callSame _ (m2 _).out)) | (go_at_call 17; (with_reducible exact Later.callSame _ (m3 _).out)))))
        refine wpQuiet_nil ?_
        rintro _ ⟨⟨wq, hbq⟩, rfl⟩
        have hps := Lib.hid (hps.out.below hbq)
        clear m1 m2 m3 q0 q1 p0 p1 r0 hbq
        go_wp2_with fail
        go_roundw
        case rel => exact ⟨j + 1, by omega, by go_num, Lib.hid ⟨T2, hps.out, hT2.out⟩⟩
        case measure => simp [intOf]; omega
    · obtain rfl : m = j := by omega
      have hTl : Hid (T.length ≤ 65536) := Lib.hid (by rw [hT.out]; omega)
      clear hj hlt
      rcases Nat.eq_zero_or_pos (leftN T) with h0 | h0
      · have ka := allP_yes tb cb vb T wr (Lib.hid hps.out.tab) hTl.out h0
        have hV := Lib.hid (allVP_len T)
        rw [hT.out] at ka hV
        go_wp2_with fail
        refine ka.mono ?_; rintro e w3 ⟨E, c1, rfl, hS, hb3, hN3, hO3⟩
        have hps3 := Lib.hid (hps.out.below hb3)
        have kr := rAll_h rb rc T w3 (Lib.hid hps3.out.ref) hTl.out
        clear ka
        go_wp2_with fail
        refine kr.mono ?_; rintro e w4 ⟨hb4, ⟨hc, _⟩ | ⟨_, E2, c2, rfl, hS2, hN4⟩⟩
        · exact absurd hc (by omega)
        rw [hT.out] at hS2 ⊢
        have ht : Hid (Turn W w4 tb cb vb rb rc n T E E2 c2) := Lib.hid (Turn.start hps.out hV.out hb3 hN3 hO3 hb4 hN4 hS2)
        have ks := same_h E E2 n c1 n c2 (allVP T) w4 (Lib.hid (hS.below hb4)) (Lib.hid hS2) (by omega)
        clear kr hps3 hb3 hN3 hO3 hb4 hN4 hS hS2 hps
        go_wp2_with (go_at_call 20; refine ks.mono ?_; rintro e w5 ⟨rfl, hb⟩; have ht5 : Hid (Turn W w5 tb cb vb rb rc n T E E2 c2) := Lib.hid ⟨ht.out.ps.below hb, ht.out.y.below hb, fun hn => by obtain ⟨g, cs, e, hr, hh⟩ := ht.out.row hn; exact ⟨g, cs, e, ⟨hr.box.below hb, hr.num⟩, hh⟩⟩; clear hb)
        clear ks ht
        go_loopw [18] (fun i wr => ∃ q : Nat, q ≤ n ∧ i = .int .i64 q ∧ Hid (Turn W wr tb cb vb rb rc n T E E2 c2)) (fun i _ => n - (intOf i).toNat)
        case atStart => exact ⟨0, Nat.zero_le _, rfl, ht5⟩
        case round =>
          clear ht5
          obtain ⟨q, hq, rfl, ht⟩ := hrel
          by_cases hlt : q < n
          · obtain ⟨g, cs, rfl, hr, _⟩ := ht.out.row (by omega)
            obtain ⟨z, hz⟩ := hr.num q hlt
            have cz := hr.box.cell _ _ hz
            have fz := hr.box.free (q * 2) (List.getElem?_eq_some_iff.1 hz).1
            have i1 : (0 : Int) ≤ (q : Int) := by omega
            have i2 : (q : Int) < (n : Int) := by omega
            have hnx := fun z' => Lib.hid (ht.out.set hlt z')
            clear hr hz
            go_wp2_with fail
            go_roundw
            case rel => exact ⟨q + 1, by omega, by go_num, hnx _⟩
            case measure => simp [intOf]; omega
          · obtain rfl : n = q := by omega
            have ka := allP_yes tb cb vb T wr (Lib.hid ht.out.ps.tab) hTl.out h0
            rw [hT.out] at ka
            go_wp2_with fail
            refine ka.mono ?_; rintro e w6 ⟨E3, c3, rfl, hS, hb, -, -⟩
            have hps := Lib.hid (ht.out.ps.below hb)
            have ks := same_h E3 E2 n c3 n c2 (allVP T) w6 (Lib.hid hS) (Lib.hid (ht.out.y.below hb)) (by omega)
            clear ka ht hS hb
            go_wp2_with (first | (go_at_call 20; refine ks.mono ?_; rintro e w7 ⟨rfl, hb⟩; have hps7 := Lib.hid (hps.out.below hb); clear hb) | (go_at_call 8; refine (works3_any _).mono ?_; rintro e w8 ⟨rfl, hq⟩; have hfin := Lib.hid (hps7.out.bl.trans (hq.mono hps7.out.bl.size)); clear hq))
            go_ret
            exact ⟨rfl, hfin.out⟩
      · have ka := fun w h => allP_no tb cb vb T w h hTl.out h0
        go_wp2_with fail
        refine (ka wr (Lib.hid hps.out.tab)).mono ?_; rintro e w3 ⟨rfl, rfl⟩
        have kr := rAll_h rb rc T wr (Lib.hid hps.out.ref) hTl.out
        go_wp2_with fail
        refine kr.mono ?_; rintro e w4 ⟨hb4, ⟨_, rfl⟩ | ⟨hc, _⟩⟩
        case inr => exact absurd hc (by omega)
        have hps := Lib.hid (hps.out.below hb4)
        clear kr hb4
        have ks := fun w => same_h none none 0 0 0 0 [] w (Lib.hid (Sl.none_ w)) (Lib.hid (Sl.none_ w)) (by omega)
        go_wp2_with (go_at_call 20; refine (ks _).mono ?_; rintro e w5 ⟨rfl, hb⟩; have hps5 := Lib.hid (hps.out.below hb); clear hb)
        refine wp_loop_rounds 1 ?_
        rw [rounds_succ]
        go_wp2_with fail
        refine (ka _ (Lib.hid hps5.out.tab)).mono ?_; rintro e w6 ⟨rfl, rfl⟩
        go_wp2_with (first | (go_at_call 20; refine (ks _).mono ?_; rintro e w7 ⟨rfl, hb⟩; have hps7 := Lib.hid (hps5.out.below hb); clear hb) | (go_at_call 8; refine (works3_any _).mono ?_; rintro e w8 ⟨rfl, hq⟩; have hfin := Lib.hid (hps7.out.bl.trans (hq.mono hps7.out.bl.size)); clear hq))
        go_ret
        exact ⟨rfl, hfin.out⟩

theorem walk (W : World) (a0 : Int) (_w0 : (Lit.int .i64 a0).wf = true) (A : Option Addr) (n c : Nat) (l : List TOp) (m1 : c ≤ maxLen) (s1 : Sl opE W A n c l) (_o1 : ∀ r ∈ l, OpOk r) :
    Calls Try.prog 3 #[.int .i64 a0, .slice A n c] W fun e w' => e = .returned (.bool true) ∧ Below W.heap.size W w' := by
  have hm := Nat.le_trans s1.cap m1
  by_cases hV : 300 < n ∨ (2000 < a0 ∧ a0 ≤ 65536)
  · exact great_ W a0 A n c hm hV
  · by_cases ha : a0 < 0 ∨ 65536 < a0
    · exact out_ W a0 A n c hm (by omega) ha
    · obtain ⟨k, rfl⟩ := Int.eq_ofNat_of_zero_le (show 0 ≤ a0 by omega)
      exact small_ W k A n c l (by omega) (Lib.hid s1) (by omega)

set_option maxRecDepth 100000 in
theorem lifted (os : Os) (started : os.Started) (H : Type) (enc : TypeId × Value → H) :
    ReturnsInHanded {} Try.checked os 3 .any (Rows.tablePlaysSpec.pre6 enc Try.prog Try.f3 Rows.tablePlaysRow.domain false) (Rows.tablePlaysSpec.post enc Try.prog Try.f3 false true false false) := by
  refine returnsInHanded_of_change (C := Try.checked) own started (by kernel_rfl) Try.func3
    (ChangeSpec.witness6 (enc := enc) (C := Try.checked) false ⟨#[], #[.int .i64 0, .slice none 0 0], []⟩ 3 (by kernel_rfl) (by kernel_rfl) (by kernel_rfl) (by kernel_rfl)) ?_
  intro W base args ds gs before hval0 hW hcnd _
  have hval : ∀ (j : Nat) t v, Try.f3.params[j]? = some t → args[j]? = some v → Value.okWide Try.prog W .any base t v := hval0
  have hW' := hW
  obtain ⟨p, q, hA0, hV, rfl, hfz, hnd⟩ := hW
  have hA : DataW.TrodAll enc Try.prog W 0 (fun _ => true) true Try.f3.params.toList args.toList ds p := hA0
  rw [Try.params3] at hA hval
  obtain ⟨v0, vs0, d0, ds0, p0, q0, hargs, rfl, rfl, h0, r0⟩ := trodAll_cons hA
  obtain ⟨v1, vs1, d1, ds1, p1, q1, rfl, rfl, rfl, h1, r1⟩ := trodAll_cons r0
  obtain ⟨rfl, rfl, rfl⟩ := trodAll_nil r1
  obtain rfl : args = #[v0, v1] := by cases args; simp_all
  obtain ⟨rfl, rfl⟩ := trodVars_none hV
  obtain ⟨a0, rfl, -, -, w0⟩ := open_int Try.underlying3 (hval 0 3 v0 rfl rfl) h0
  obtain ⟨A1, n1, c1, l1, rfl, m1, s1, o1⟩ := view_ops (hval 1 22 v1 rfl rfl) h1
  refine (walk W a0 w0 A1 n1 c1 l1 m1 s1 o1).mono fun e W' ⟨he, hg⟩ => ?_
  subst he
  exact ⟨_, rfl, law_post laidOut (by kernel_rfl) rfl Try.underlying4 rfl hW' rfl rfl rfl hg⟩

theorem over : Rows.tablePlaysRow.holds Try.pinned (OpenSpec.ofChange Rows.tablePlaysSpec) :=
  OpenClaim.holds_of_wide 3 Try.f3 rfl rfl rfl rfl rfl rfl rfl ⟨rfl, rfl, rfl, rfl, rfl⟩ rfl rfl rfl rfl rfl (by kernel_rfl) Try.func3 (by kernel_rfl)
    (of_decide_eq_true (by kernel_rfl)) (by unfold Func.isWrapper; first | (rw [if_pos (by decide +kernel)]; kernel_rfl) | (rw [if_neg (by decide +kernel)]; exact ⟨rfl, rfl⟩))
    (fun os started H enc _ => lifted os started H enc)

/-- The statement. -/
theorem proved : Rows.TablePlaysSaid := over
#print axioms proved
end Go.Proofs.Ythkngenmdogpjaa.lawTablePlays
